/-
  A map of the blocks that wait: put, has, taken out one by one. What the flow of an image is; no Go in sight. slices.Clone and rising of package edge, by what they answer; at most 1048576 numbers. A list of lists that is written over; no Go in sight.
-/
import Derived.Test.YtfnicgihpelhhaaGreatProg
import Derived.WalkKit
import Derived.WalkSpells
import Derived.WalkLawsBesides
import Derived.RowKit3
import Derived.Below
import Derived.Deep.QuietTactic
import Derived.BigQuiet
import Derived.WalkSmall
import Derived.Laws.Rows
import Derived.Test.YtfnicgihpelhhaaGreatPd08
import Derived.Test.YtfnicgihpelhhaaGreatPd22
import Derived.Maps.RangeWalk
import Derived.Test.YtfnicgihpelhhaaGreatPd19
import Derived.Test.YtfnicgihpelhhaaGreatPd13
import Derived.Lib.OwnBridge
import Derived.Sort.OwnSortedInts
import Derived.Test.YtfnicgihpelhhaaGreatPd18
import Derived.Test.YtfnicgihpelhhaaGreatPd09
import Derived.Test.YtfnicgihpelhhaaGreatPd14
namespace Go.Proofs.YtfnicgihpelhhaaGreat
open Go.RowKit

open Go.Maps Go.WideMaps
theorem mapW : Tryz.prog.underlying 132 = some (.map 3 123) := by kernel_rfl
theorem zeroW (w : World) : (zeroValue 123).run Tryz.prog w = .ok (.agg #[]) w := by kernel_rfl
theorem mkW (w : World) : (Instr.makeMap 132 none).run Tryz.prog w = .ok (.map (some w.heap.size)) (w.alloc (.map #[] 0)) := by
  first | kernel_rfl | (simp [Instr.makeMap, run_underlying mapW, Result.andThen])
theorem Mks.lookW {w : World} {b n : Nat} {f : Int → Bool} (h : Mks w b n f) {x : Int} (h0 : -9223372036854775808 ≤ x) (h1 : x ≤ 9223372036854775807) : (Instr.lookup 132 (.map (some b)) (.int .i64 x) true).run Tryz.prog w = .ok (.tuple #[.agg #[], .bool (f x)]) w := by
  obtain ⟨D, h, h3⟩ := h
  obtain ⟨v, ps, hrun, hv⟩ := h.look_ok lawI mapW (zeroW w) unitElem_mk (keyI h0 h1)
  obtain ⟨rfl, _⟩ := unitElem_inv hv
  rw [hrun, h3]
theorem Mks.putW {w : World} {b n : Nat} {f : Int → Bool} (h : Mks w b n f) (hn : n < 1000000000000) {x : Int} (h0 : -9223372036854775808 ≤ x) (h1 : x ≤ 9223372036854775807) : ∃ w', (Instr.mapUpdate 132 (.map (some b)) (.int .i64 x) (.agg #[])).run Tryz.prog w = .ok () w' ∧ Mks w' b (n + 1) (setF f x) ∧ w.grownBy w' (some b) := by
  obtain ⟨D, h, h3⟩ := h
  obtain ⟨w', hrun, k1, hg⟩ := h.update lawI mapW (by unfold maxLen; omega) (keyI h0 h1) unitElem_mk
  refine ⟨w', hrun, ⟨_, k1, fun y => ?_⟩, hg⟩
  unfold setF
  cases hy : (y == x) with
  | true =>
    have : y = x := by simpa using hy
    subst this
    exact Maps.has_put_same h.isMap (by simp [WideAt.IsKeyLit]) _
  | false =>
    have hne : (Lit.int .i64 y) ≠ .int .i64 x := fun e => by
      injection e with _ e
      subst e
      simp at hy
    rw [Maps.has_put_other hne, Bool.false_or]
    exact h3 y
theorem wpList_mks_putW (w : World) {ops : Array Oper} {rest : List Oper} {o : Oper} {a : Act} {Q : Exit → Act → World → Prop} (hg : o.guard = none) (m x v : Operand) (hop : o.op = Op.mapUpdate 132 m x v)
    (b n : Nat) (f : Int → Bool) (hk : Mks w b n f) (hn : n < 1000000000000) (y : Int) (h0 : -9223372036854775808 ≤ y) (h1 : y ≤ 9223372036854775807) (hm : a.eval m = .map (some b)) (hx : a.eval x = .int .i64 y) (hv : a.eval v = .agg #[])
    (hK : ∀ w', Mks w' b (n + 1) (setF f y) → w.grownBy w' (some b) → wpList Tryz.prog ops Q rest (a.put o.dst undef) w') : wpList Tryz.prog ops Q (o :: rest) a w := by
  refine wpList_plain hg fun K' hK' => ?_
  obtain ⟨w', hrun, k1, k2⟩ := hk.putW hn h0 h1
  unfold Oper.wp
  simp [execOp, hop, hm, hx, hv, hrun, Result.andThen]
  exact hK' _ _ (hK w' k1 k2)
set_option maxHeartbeats 1000000 in
theorem wput_any (b n : Nat) (f : Int → Bool) (x : Int) (w : World) (hk : Mks w b n f) (hn : n < 1000000000000) (h0 : -9223372036854775808 ≤ x) (h1 : x ≤ 9223372036854775807) :
    Calls Tryz.prog 77 #[.map (some b), .int .i64 x] w fun e w' => e = .returned (.tuple #[]) ∧ Mks w' b (n + 1) (setF f x) ∧ w.grownBy w' (some b) := by
  have HK : Hid (Mks w b n f) := hk
  clear hk
  go_enter Tryz.func77, Tryz.ntmps77
  go_wp2_with (at_mapUpdate; refine wpList_mks_putW _ rfl _ _ _ rfl b n f HK.out hn x h0 h1 rfl rfl rfl ?_; intro w2 hk2 hg2)
  refine bodyPost_end (v := .tuple #[]) (by simp [results, Tryz.results77, go_sem]) rfl ?_
  exact ⟨rfl, hk2, hg2⟩
set_option maxHeartbeats 1000000 in
theorem whas_any (b n : Nat) (f : Int → Bool) (x : Int) (w : World) (hk : Mks w b n f) (h0 : -9223372036854775808 ≤ x) (h1 : x ≤ 9223372036854775807) :
    Calls Tryz.prog 91 #[.map (some b), .int .i64 x] w fun e w' => e = .returned (.bool (f x)) ∧ Below w.heap.size w w' := by
  have hlk := hk.lookW h0 h1
  clear hk
  generalize f x = v at *
  go_enter Tryz.func91, Tryz.ntmps91
  go_wp2
  go_ret
  exact ⟨rfl, lb_alloc (Below.refl _ _) _⟩
/-- How many there are: none just if it has none. -/
theorem size_none {D : DataW Unit} {w : World} {b n : Nat} (h : w.ownsMap Tryz.prog 3 unitElem b n D) (hz : Maps.size D = 0) (x : Int) : Maps.has D (.int .i64 x) = false := by
  obtain ⟨es, rfl, _, _⟩ := h.entries lawI
  have : es = [] := List.eq_nil_of_length_eq_zero hz
  subst this
  rfl
/-- The range under way: f: what the map has, g: what is still to come. -/
def Rn (w : World) (b r n : Nat) (f g : Int → Bool) (cnt : Nat) : Prop := ∃ (D : DataW Unit) (left : Lit → Bool), w.ranges Tryz.prog 3 unitElem b r n D left cnt ∧ (∀ x : Int, Maps.has D (.int .i64 x) = f x) ∧ ∀ x : Int, left (.int .i64 x) = g x
section
variable {w w1 : World} {b r n : Nat} {f g : Int → Bool} {cnt : Nat}
theorem Rn.mks (h : Rn w b r n f g cnt) : Mks w b n f := by
  obtain ⟨D, left, h1, h2, _⟩ := h
  exact ⟨D, h1.owns, h2⟩
theorem Rn.left (h : Rn w b r n f g cnt) : w.rangeLeft b r = cnt := by
  obtain ⟨D, left, h1, _⟩ := h
  exact h1.left_eq
theorem Rn.ltR (h : Rn w b r n f g cnt) : r < w.heap.size := by
  obtain ⟨D, left, h1, _⟩ := h
  exact h1.lt
theorem Rn.kept {row : Option Nat} (h : Rn w b r n f g cnt) (hg : w.grownBy w1 row) (hb : some b ≠ row) (hr : some r ≠ row) : Rn w1 b r n f g cnt := by
  obtain ⟨D, left, h1, h2⟩ := h
  exact ⟨D, left, h1.kept hg hb hr, h2⟩
theorem Rn.fit {f' g' : Int → Bool} (h : Rn w b r n f g cnt) (ef : ∀ x, f x = f' x) (eg : ∀ x, g x = g' x) : Rn w b r n f' g' cnt := by
  obtain ⟨D, left, h1, h2, h3⟩ := h
  exact ⟨D, left, h1, fun x => by rw [← ef, h2], fun x => by rw [← eg, h3]⟩
/-- A range's blocks are no row of cells. -/
theorem Rn.notcells (h : Rn w b r n f g cnt) {k : Nat} {cs : Array Value} {t : TypeId} (hk : w.heap[k]? = some (.cells cs t (0, 0))) : k ≠ b ∧ k ≠ r := by
  obtain ⟨D, left, h1, _⟩ := h
  obtain ⟨es, clock, since, seen, c0, hb, _, _, _, hr, _⟩ := h1
  constructor
  · rintro rfl
    rw [hb] at hk; cases hk
  · rintro rfl
    rw [hr] at hk; cases hk
end
def cutF (f : Int → Bool) (x : Int) (y : Int) : Bool := f y && !(y == x)
theorem lit_same (x y : Int) : (Lit.int .i64 y).sameKey (.int .i64 x) = (y == x) := by
  cases h : (y == x) with
  | true =>
    have : y = x := by simpa using h
    subst this
    exact WideAt.sameKey_self (by simp [WideAt.IsKeyLit])
  | false =>
    cases h2 : (Lit.int .i64 y).sameKey (.int .i64 x) with
    | false => rfl
    | true =>
      have := WideAt.sameKey_eq h2
      injection this with _ e
      subst e
      simp at h
theorem wpList_rn_range (w : World) {ops : Array Oper} {rest : List Oper} {o : Oper} {a : Act} {Q : Exit → Act → World → Prop} (hg : o.guard = none) (m : Operand) (hop : o.op = Op.range 132 m)
    (b n : Nat) (f : Int → Bool) (hk : Mks w b n f) (hm : a.eval m = .map (some b))
    (hK : ∀ w' cnt, Rn w' b w.heap.size n f f cnt → w.grownBy w' none → w'.heap.size = w.heap.size + 1 → wpList Tryz.prog ops Q rest (a.put o.dst (.pointer (some ⟨w.heap.size, 0, none⟩))) w') : wpList Tryz.prog ops Q (o :: rest) a w := by
  obtain ⟨D, h, h3⟩ := hk
  exact wpList_range_own w hg m _ hop 3 _ lawI mapW unitElem b n D hm h fun w' h1 h2 h4 => hK w' _ ⟨D, _, h1, h3, h3⟩ h2 h4
theorem wpList_rn_next (w : World) {ops : Array Oper} {rest : List Oper} {o : Oper} {a : Act} {Q : Exit → Act → World → Prop} (hg : o.guard = none) (it : Operand) (hop : o.op = Op.next it false)
    (b r n : Nat) (f g : Int → Bool) (cnt : Nat) (hit : a.eval it = .pointer (some ⟨r, 0, none⟩)) (h : Rn w b r n f g cnt)
    (hDone : (∀ x, g x = false) → wpList Tryz.prog ops Q rest (a.put o.dst (.tuple #[.bool false])) w)
    (hMore : ∀ (x : Int) (w' : World) (cnt' : Nat), g x = true → -9223372036854775808 ≤ x → x ≤ 9223372036854775807 → Rn w' b r n f (cutF g x) cnt' → cnt' < cnt → w.grownBy w' (some r) → w'.heap.size = w.heap.size → (Instr.entry (.pointer (some ⟨r, 0, none⟩))).run Tryz.prog w' = .ok (.tuple #[.int .i64 x, .agg #[]]) w' → wpList Tryz.prog ops Q rest (a.put o.dst (.tuple #[.bool true, .int .i64 x, .agg #[]])) w') : wpList Tryz.prog ops Q (o :: rest) a w := by
  obtain ⟨D, left, h1, h2, h3⟩ := h
  refine wpList_next_ranges w hg it hop 3 lawI unitElem (Value.int .i64) (fun _ : Unit => .agg #[]) (fun key kl hkey => by obtain ⟨x, rfl, _⟩ := Maps.keyOf_int_inv Tryz.underlying3 hkey; exact ⟨x, rfl⟩) (fun v y hv => ⟨(), (unitElem_inv hv).1⟩) b r n D left cnt hit h1 (fun _ hl => hDone fun x => by rw [← h3, hl]) ?_
  intro x c kl y w' cnt' hkey hlk hv hat hrg hlt hgr hsz hen
  obtain ⟨x', ex, rfl, hwx⟩ := Maps.keyOf_int_inv Tryz.underlying3 hkey
  cases ex
  have hb : -9223372036854775808 ≤ x ∧ x ≤ 9223372036854775807 := by
    simp [Lit.wf, IntKind.min, IntKind.max, IntKind.signed, IntKind.bits] at hwx
    omega
  refine hMore x w' cnt' (by rw [← h3]; exact hlk) hb.1 hb.2 ⟨D, _, hrg, h2, fun y => ?_⟩ hlt hgr hsz hen
  show (left _ && !_) = _
  rw [h3, lit_same]; rfl
theorem wpList_rn_delete (w : World) {ops : Array Oper} {rest : List Oper} {o : Oper} {a : Act} {Q : Exit → Act → World → Prop} (hg : o.guard = none) (m x : Operand) (hop : o.op = Op.call { callee := Callee.builtin Builtin.delete, args := #[m, x], argTypes := #[132, 3] })
    (b r n : Nat) (f g : Int → Bool) (cnt : Nat) {y : Int} (h : Rn w b r n f (cutF g y) cnt) (h0 : -9223372036854775808 ≤ y) (h1 : y ≤ 9223372036854775807) (hm : a.eval m = .map (some b)) (hx : a.eval x = .int .i64 y)
    (hK : ∀ w' cnt', Rn w' b r n (cutF f y) (cutF g y) cnt' → cnt' ≤ cnt → w.grownBy w' (some b) → w'.heap.size = w.heap.size → wpList Tryz.prog ops Q rest (a.put o.dst (.tuple #[])) w') : wpList Tryz.prog ops Q (o :: rest) a w := by
  obtain ⟨D, left, k1, k2, k3⟩ := h
  refine wpList_delete_ranges w hg m x _ 3 hop _ lawI mapW unitElem b r n D left cnt hm k1 _ _ hx (keyI h0 h1) ?_
  intro w' cnt' hrg hle ht
  refine hK w' cnt' ⟨_, _, hrg, fun z => ?_, fun z => ?_⟩ hle ht.grown ?_
  · by_cases e : z = y
    · subst e
      rw [Maps.has_del_same]
      simp [cutF]
    · rw [Maps.has_del_other (by intro h; injection h with _ h; exact e h), k2]
      simp [cutF, e]
  · show (left _ && !_) = _
    rw [k3, lit_same]
    unfold cutF
    cases g z <;> cases (z == y) <;> rfl
  · obtain ⟨es, c, es', c', _, e⟩ := ht
    rw [e]
    simp [ChangeMaps.setBlock]

end Go.Proofs.YtfnicgihpelhhaaGreat

namespace Go.Proofs.YtfnicgihpelhhaaGreat
open Go.RowKit

theorem zisT_of {v : Int} (h : dOp v = 15 ∨ dOp v = 16 ∨ dOp v = 17 ∨ dOp v = 20) : isT v = true ∧ tgV v = dN v := by
  have : isT v = true := by
    unfold isT hP
    rw [Bool.and_eq_true, decide_eq_true_eq, decide_eq_true_eq]
    omega
  exact ⟨this, by unfold tgV; rw [if_pos this]⟩
theorem zlab_place {text : List Int} {ml : Nat} {ent : Int} (hM : MayI text ml ent) {i : Nat} (hi : i < text.length) (h : dOp (nth text i) = 15 ∨ dOp (nth text i) = 16 ∨ dOp (nth text i) = 17 ∨ dOp (nth text i) = 20) : dN (nth text i) ∈ plcT (begF text ent) text.length := by
  obtain ⟨h1, h2⟩ := zisT_of h
  have h3 := tg_pos h1
  have h4 := far_in (hM.far i hi) h1
  rw [h2] at h3 h4
  refine plcT_mem.2 ⟨h3.1, h4, beg_lab (lab_iff.2 (.inr (anyF_iff.2 ⟨i, hi, ?_⟩)))⟩
  rw [gLab_yes h1, h2]
theorem zkn_place {text : List Int} {ml : Nat} {ent : Int} (hM : MayI text ml ent) {x : Int} (h : (takF text x || sitF text x) = true) : x ∈ plcT (begF text ent) text.length := by
  rw [Bool.or_eq_true] at h
  rcases h with h | h
  · have h' : anyF (gTak text) text.length x = true := by simpa [takF, addK, noF] using h
    obtain ⟨i, hi, e⟩ := anyF_iff.1 h'
    unfold gTak at e
    split at e
    · rename_i h20
      have h20 : dOp (nth text i) = 20 := by simpa using h20
      obtain rfl := Option.some.inj e
      exact zlab_place hM hi (by omega)
    · cases e
  · have h' : anyF (gSit text) text.length x = true := by simpa [sitF, addK, noF] using h
    obtain ⟨i, hi, e⟩ := anyF_iff.1 h'
    unfold gSit at e
    split at e
    · rename_i h17
      obtain rfl := Option.some.inj e
      have := sit_in hM hi h17
      exact sit_beg (plcT_mem.2 ⟨by omega, by omega, h⟩)
    · cases e
/-- Which numbers tell the blocks by their beginnings. -/
def NumF (text : List Int) (ent : Int) (k : Nat) (F : Int → Int) : Prop := ∀ j : Nat, j < k → F (rAt (blkL text ent) j) = (j : Int)
theorem blk_place {text : List Int} {ent x : Int} {F : Int → Int} (hF : NumF text ent (blkL text ent).length F) (hx : x ∈ plcT (begF text ent) text.length) : ∃ k : Nat, k < (blkL text ent).length ∧ rAt (blkL text ent) k = x ∧ F x = (k : Int) := by
  obtain ⟨k, hk, _, e⟩ := blk_begin (f := begF text ent) (n := text.length) hx
  have e : rAt (blkL text ent) k = x := e
  exact ⟨k, hk, e, by rw [← e]; exact hF k hk⟩
theorem rAt_rise {text : List Int} {ent : Int} {i j : Nat} (hij : i < j) (hj : j < (blkL text ent).length) : rAt (blkL text ent) i < rAt (blkL text ent) j := by
  have hj2 : j < (plcT (begF text ent) text.length).length := by rw [← blkN_len]; exact hj
  have h1 := blk_from (f := begF text ent) (n := text.length) (k := i) (by omega)
  have h2 := blk_from (f := begF text ent) (n := text.length) hj2
  have e : blkN (begF text ent) text.length = blkL text ent := rfl
  rw [e] at h1 h2
  rw [h1, h2]
  exact plc_rise hij hj2
theorem NumF.more {text : List Int} {ent : Int} {k : Nat} {F : Int → Int} (h : NumF text ent k F) (hk : k < (blkL text ent).length) : NumF text ent (k + 1) (fun y => if y = rAt (blkL text ent) k then (k : Int) else F y) := fun j hj => by
  by_cases e : j = k
  · subst e
    show (if _ then _ else _) = _
    rw [if_pos rfl]
  · have := rAt_rise (text := text) (ent := ent) (show j < k by omega) hk
    show (if _ then _ else _) = _
    rw [if_neg (by omega)]
    exact h j (by omega)
def knK (text : List Int) (ent : Int) (y : Int) : Bool := takF text (rAt (blkL text ent) y.toNat) || sitF text (rAt (blkL text ent) y.toNat)
/-- The blocks at whose beginnings a leap can end. -/
theorem known_plc {text : List Int} {ml : Nat} {ent : Int} (hM : MayI text ml ent) {F : Int → Int} (hF : NumF text ent (blkL text ent).length F) : risZ ((plcT (takF text) text.length ++ plcT (sitF text) text.length).map F) = plcT (knK text ent) (blkL text ent).length := by
  refine ris_plc fun y => ?_
  rw [List.mem_map]
  constructor
  · rintro ⟨p, hp, rfl⟩
    have hk : (takF text p || sitF text p) = true := by
      rw [List.mem_append] at hp
      rw [Bool.or_eq_true]
      rcases hp with hp | hp
      · exact .inl (plcT_mem.1 hp).2.2
      · exact .inr (plcT_mem.1 hp).2.2
    obtain ⟨k, hk1, e1, e2⟩ := blk_place hF (zkn_place hM hk)
    rw [e2]
    refine ⟨by omega, by omega, ?_⟩
    unfold knK
    rw [show ((k : Int)).toNat = k by omega, e1]
    exact hk
  · rintro ⟨h0, h1, h2⟩
    have hk : y.toNat < (blkL text ent).length := by omega
    have hin := blk_in hk
    refine ⟨rAt (blkL text ent) y.toNat, ?_, ?_⟩
    · unfold knK at h2
      rw [Bool.or_eq_true] at h2
      rw [List.mem_append]
      rcases h2 with h2 | h2
      · exact .inl (plcT_mem.2 ⟨hin.1, by omega, h2⟩)
      · exact .inr (plcT_mem.2 ⟨hin.1, by omega, h2⟩)
    · rw [hF _ hk]; omega
section
variable {text : List Int} {ml : Nat} {ent : Int} {k : Nat}
theorem last_at (hk : k < (blkL text ent).length) : ∃ p : Nat, p < text.length ∧ rSym (blkL text ent) k = (p : Int) + 1 ∧ lastW text ent k = nth text p := by
  have hin := blk_in hk
  refine ⟨(rSym (blkL text ent) k - 1).toNat, by omega, by omega, rfl⟩
theorem zblk_after {p : Nat} (hb : k < (blkL text ent).length) (e : rSym (blkL text ent) k = (p : Int) + 1) (hp : p + 1 < text.length) : k + 1 < (blkL text ent).length ∧ rAt (blkL text ent) (k + 1) = (p : Int) + 1 := by
  have hb' : k < (plcT (begF text ent) text.length).length := by rw [← blkN_len]; exact hb
  by_cases h4 : k + 1 < (plcT (begF text ent) text.length).length
  · have h5 := blk_next (f := begF text ent) (n := text.length) h4
    exact ⟨by show k + 1 < (blkN (begF text ent) text.length).length; rw [blkN_len]; exact h4, by rw [← e]; exact h5.symm⟩
  · have h5 : rSym (blkL text ent) k = (text.length : Int) := blk_last (f := begF text ent) (n := text.length) (k := k) (by omega)
    omega
theorem znot_last {p : Nat} (hM : MayI text ml ent) (hp : p < text.length) (h : ¬ (dOp (nth text p) = 0 ∨ dOp (nth text p) = 15 ∨ dOp (nth text p) = 19 ∨ dOp (nth text p) = 21)) : p + 1 < text.length := by
  by_cases e : p + 1 = text.length
  · have hl := hM.last
    rw [show text.length - 1 = p by omega] at hl
    unfold lastOK at hl
    rw [decide_eq_true_eq] at hl
    exact absurd hl h
  · omega
theorem next_blk (hM : MayI text ml ent) (hk : k < (blkL text ent).length) (h : ¬ (dOp (lastW text ent k) = 0 ∨ dOp (lastW text ent k) = 15 ∨ dOp (lastW text ent k) = 19 ∨ dOp (lastW text ent k) = 21)) : k + 1 < (blkL text ent).length := by
  obtain ⟨p, hp, e, el⟩ := last_at hk
  rw [el] at h
  exact (zblk_after hk e (znot_last hM hp h)).1
theorem edg_at (hk : k < (blkL text ent).length) : rowZ (edgT text ent (blkL text ent).length) k = plcT (edgR text ent k) (blkL text ent).length := edg_row hk
theorem from_known (hk : k < (blkL text ent).length) (h : dOp (lastW text ent k) = 18 ∨ dOp (lastW text ent k) = 19) : rowZ (edgT text ent (blkL text ent).length) k = plcT (knK text ent) (blkL text ent).length := by
  rw [edg_at hk]
  refine plcT_fit fun i _ => ?_
  unfold edgR edgB knK goesF
  rw [if_neg (by omega), if_neg (by omega), if_neg (by omega), if_pos h]
theorem from_none (hk : k < (blkL text ent).length) (h : dOp (lastW text ent k) = -1 ∨ dOp (lastW text ent k) = 0 ∨ dOp (lastW text ent k) = 21) : rowZ (edgT text ent (blkL text ent).length) k = [] := by
  rw [edg_at hk]
  symm
  refine plc_uniq (by simp) fun y => ?_
  constructor
  · intro hy; simp at hy
  · rintro ⟨_, _, h2⟩
    unfold edgR edgB goesF at h2
    rw [if_pos h] at h2
    cases h2
theorem from_jump (hM : MayI text ml ent) {F : Int → Int} (hF : NumF text ent (blkL text ent).length F) (hk : k < (blkL text ent).length) (h : dOp (lastW text ent k) = 15 ∨ dOp (lastW text ent k) = 17) : rowZ (edgT text ent (blkL text ent).length) k = [F (dN (lastW text ent k))] := by
  obtain ⟨p, hp, e, el⟩ := last_at hk
  have hl := zlab_place hM hp (by rw [← el]; omega)
  rw [← el] at hl
  obtain ⟨j, hj, e1, e2⟩ := blk_place hF hl
  rw [edg_at hk]
  symm
  refine plc_uniq (by simp) fun y => ?_
  rw [List.mem_singleton, e2]
  have hg : edgR text ent k y = (dN (lastW text ent k) == rAt (blkL text ent) y.toNat) := by
    unfold edgR edgB goesF
    rw [if_neg (by omega), if_pos h]
  rw [hg, beq_iff_eq]
  constructor
  · rintro rfl
    refine ⟨by omega, by omega, ?_⟩
    rw [show ((j : Int)).toNat = j by omega]; exact e1.symm
  · rintro ⟨h0, h1, h2⟩
    have := hF y.toNat (by omega)
    rw [← h2, e2] at this
    omega
theorem from_zero (hM : MayI text ml ent) {F : Int → Int} (hF : NumF text ent (blkL text ent).length F) (hk : k < (blkL text ent).length) (h : dOp (lastW text ent k) = 16) : rowZ (edgT text ent (blkL text ent).length) k = risZ [F (dN (lastW text ent k)), (k : Int) + 1] := by
  obtain ⟨p, hp, e, el⟩ := last_at hk
  have hl := zlab_place hM hp (by rw [← el]; omega)
  rw [← el] at hl
  obtain ⟨j, hj, e1, e2⟩ := blk_place hF hl
  have hnx := next_blk hM hk (by omega)
  rw [edg_at hk]
  symm
  refine ris_plc fun y => ?_
  rw [List.mem_cons, List.mem_singleton, e2]
  have hg : edgR text ent k y = ((dN (lastW text ent k) == rAt (blkL text ent) y.toNat) || (((y.toNat : Nat) : Int) == (k : Int) + 1)) := by
    unfold edgR edgB goesF
    rw [if_neg (by omega), if_neg (by omega), if_pos h]
  rw [hg, Bool.or_eq_true, beq_iff_eq, beq_iff_eq]
  constructor
  · rintro (rfl | rfl)
    · refine ⟨by omega, by omega, .inl ?_⟩
      rw [show ((j : Int)).toNat = j by omega]; exact e1.symm
    · exact ⟨by omega, by omega, .inr (by omega)⟩
  · rintro ⟨h0, h1, h2 | h2⟩
    · have := hF y.toNat (by omega)
      rw [← h2, e2] at this
      exact .inl (by omega)
    · exact .inr (by omega)
theorem from_next (hM : MayI text ml ent) (hk : k < (blkL text ent).length) (h : ¬ (dOp (lastW text ent k) = -1 ∨ dOp (lastW text ent k) = 0 ∨ dOp (lastW text ent k) = 21 ∨ dOp (lastW text ent k) = 15 ∨ dOp (lastW text ent k) = 17 ∨ dOp (lastW text ent k) = 16 ∨ dOp (lastW text ent k) = 18 ∨ dOp (lastW text ent k) = 19)) : rowZ (edgT text ent (blkL text ent).length) k = [(k : Int) + 1] := by
  have hnx := next_blk hM hk (by omega)
  rw [edg_at hk]
  symm
  refine plc_uniq (by simp) fun y => ?_
  rw [List.mem_singleton]
  have hg : edgR text ent k y = (((y.toNat : Nat) : Int) == (k : Int) + 1) := by
    unfold edgR edgB goesF
    rw [if_neg (by omega), if_neg (by omega), if_neg (by omega), if_neg (by omega)]
  rw [hg, beq_iff_eq]
  constructor
  · rintro rfl
    exact ⟨by omega, by omega, by omega⟩
  · rintro ⟨h0, h1, h2⟩
    omega
theorem jump_in (hM : MayI text ml ent) (hk : k < (blkL text ent).length) (h : dOp (lastW text ent k) = 15 ∨ dOp (lastW text ent k) = 16 ∨ dOp (lastW text ent k) = 17) : 0 ≤ dN (lastW text ent k) ∧ dN (lastW text ent k) < (text.length : Int) := by
  obtain ⟨p, hp, e, el⟩ := last_at hk
  have hl := zlab_place hM hp (by rw [← el]; omega)
  rw [← el] at hl
  exact ⟨(plcT_mem.1 hl).1, (plcT_mem.1 hl).2.1⟩
end
/-- The cells of an instruction. -/
def insC (v : Int) : List Value := [.int .i8 (dOp v), .int .i8 (dD v), .int .i8 (dA v), .int .i8 (dB v), .int .i64 (dN v)]
def lstV : List Int → List Value
  | [] => []
  | v :: l => insC v ++ lstV l
theorem lstV_snoc : ∀ (l : List Int) (v : Int), lstV (l ++ [v]) = lstV l ++ insC v
  | [], v => by simp [lstV]
  | x :: l, v => by rw [List.cons_append, lstV, lstV, lstV_snoc l v, List.append_assoc]
theorem lstV_len : ∀ l : List Int, (lstV l).length = l.length * 5
  | [] => rfl
  | x :: l => by rw [lstV, List.length_append, lstV_len l, List.length_cons]; simp [insC]; omega
theorem lstV_get : ∀ {l : List Int} {i j : Nat}, i < l.length → j < 5 → (lstV l)[i * 5 + j]? = (insC (nth l i))[j]?
  | [], i, j, h, _ => absurd h (Nat.not_lt_zero _)
  | x :: l, 0, j, _, hj => by
    rw [lstV, List.getElem?_append_left (by simp [insC]; omega)]
    simp [nth]
  | x :: l, i + 1, j, h, hj => by
    rw [lstV, List.getElem?_append_right (by simp [insC]; omega), show (i + 1) * 5 + j - (insC x).length = i * 5 + j by simp [insC]; omega, lstV_get (l := l) (by simpa using h) hj]
    simp [nth]
theorem insC_one (v : Int) : ∀ u ∈ insC v, u.oneCell' = true := fun u hu => by
  simp only [insC, List.mem_cons, List.not_mem_nil, or_false] at hu
  rcases hu with rfl | rfl | rfl | rfl | rfl <;> rfl
/-- The last words of the first k blocks. -/
def lastL (text : List Int) (ent : Int) (k : Nat) : List Int := (List.range k).map (lastW text ent)
theorem lastL_len (text : List Int) (ent : Int) (k : Nat) : (lastL text ent k).length = k := by simp [lastL]
theorem lastL_succ (text : List Int) (ent : Int) (k : Nat) : lastL text ent (k + 1) = lastL text ent k ++ [lastW text ent k] := by simp [lastL, List.range_succ]
theorem lastL_nth {text : List Int} {ent : Int} {k i : Nat} (h : i < k) : nth (lastL text ent k) i = lastW text ent i := by simp [nth, lastL, List.getD, h]


end Go.Proofs.YtfnicgihpelhhaaGreat

namespace Go.Proofs.YtfnicgihpelhhaaGreat
open Go.RowKit

open Go.Sort
/-- An answer that is a list of its own memory. -/
def RowP (l : List Int) (w : World) (e : Ending) (w' : World) : Prop := ∃ (A : Option Addr) (c : Nat), e = .returned (.slice A l.length c) ∧ w'.ownsRow w.heap.size 3 1 (.slice A l.length c) l.length (iVals .i64 l) ∧ Below w.heap.size w w'
theorem clone_any (base : Nat) (A : Option Addr) (c : Nat) (l : List Int) (w : World) (h : w.ownsRow base 3 1 (.slice A l.length c) l.length (iVals .i64 l)) (hl : l.length ≤ 1048576) :
    Calls Tryz.prog 88 #[.slice A l.length c] w (RowP l w) := by
  have hi := row_ints h
  rcases h.2 with ⟨e, h0⟩ | ⟨g, cap, cur, e, hb, hg, hn, hm, hs, ht⟩
  · injection e with e1 e2 e3
    subst e1
    rw [h0]
    obtain rfl : l = [] := List.length_eq_zero_iff.1 h0
    refine (Any.slices_Clone_int_nil Tryz.layC 0 c w).mono fun e w' he => ?_
    obtain ⟨rfl, rfl⟩ := he
    exact ⟨none, 0, rfl, World.ownsRow_nil _ _ _ _, Below.refl _ _⟩
  · injection e with e1 e2 e3
    subst e1
    refine (Any.slices_Clone_int Tryz.layC g 0 l.length c l w (Nat.le_refl _) (by omega) (fun j hj => ?_)).mono fun e w' he => ?_
    · obtain ⟨a, ea, q⟩ := hi j hj
      obtain rfl := Option.some.inj ea
      rw [add0] at q
      rw [Nat.zero_add]
      exact q
    · obtain ⟨v, rfl, hown, _, hbl⟩ := he
      rw [List.take_of_length_le (Nat.le_refl _)] at hown
      obtain ⟨A2, c2, rfl⟩ := own_form hown
      exact ⟨A2, c2, rfl, hown, hbl⟩
/-- What the three leave. -/
theorem ris_end {w w1 : World} {g cap n nn q : Nat} {os : Array Obj} {l : List Int} (hown : w1.ownsRow w.heap.size 3 1 (.slice (some ⟨g, 0, none⟩) n cap) n (l.map (Value.int .i64))) (hbel : Below w.heap.size w w1) (hlen : l.length = n) :
    (putRow (Value.int .i64) (Sort.ahead (grow (putRow (Value.int .i64) (Sort.ahead w1 nn) g 0 (l.mergeSort fun x y => decide (x ≤ y)).toArray) os) q) g 0 (risZ l ++ List.replicate (n - (risZ l).length) 0).toArray).ownsRow w.heap.size 3 1 (.slice (some ⟨g, 0, none⟩) (risZ l).length cap) (risZ l).length (iVals .i64 (risZ l)) ∧ Below w.heap.size w (putRow (Value.int .i64) (Sort.ahead (grow (putRow (Value.int .i64) (Sort.ahead w1 nn) g 0 (l.mergeSort fun x y => decide (x ≤ y)).toArray) os) q) g 0 (risZ l ++ List.replicate (n - (risZ l).length) 0).toArray) := by
  have hl2 : (l.mergeSort fun x y => decide (x ≤ y)).length = l.length := List.length_mergeSort l
  have hle := ris_len l
  subst hlen
  rcases hown.2 with ⟨h0, _⟩ | ⟨g', cap', cur, hv, hbase, hb, h1, h2, h3, h4⟩
  · cases h0
  cases hv
  have hs := ownsRow_sortedI (n := nn) (os := os) (ts := l.mergeSort fun x y => decide (x ≤ y)) hl2 hbase hb h1 h2 h3
  have hc := Lib.ownsRow_putRow (q := q) (k := (risZ l).length) (ys := risZ l ++ List.replicate (l.length - (risZ l).length) 0) hs (by simp; omega) (by omega)
  rw [List.take_left] at hc
  exact ⟨hc, Lib.below_putRow (hbel.grown (grownBy_sortedI _) hbel.size (fun j hj => by cases hj; exact hbase)) hbase⟩
set_option maxHeartbeats 1000000 in
theorem rising_any (base : Nat) (A : Option Addr) (c : Nat) (l : List Int) (w : World) (h : w.ownsRow base 3 1 (.slice A l.length c) l.length (iVals .i64 l)) (hl : l.length ≤ 1048576) :
    Calls Tryz.prog 113 #[.slice A l.length c] w (RowP (risZ l) w) := by
  have C := clone_any base A c l w h hl
  clear h
  by_cases h0 : l.length = 0
  · obtain rfl : l = [] := List.length_eq_zero_iff.1 h0
    have C : Calls Tryz.prog 88 #[.slice A 0 c] w (RowP [] w) := C
    have HR : Hid (risZ [] = []) := by unfold Hid; exact List.length_eq_zero_iff.1 (by have := ris_len []; simpa using this)
    have hg : ∀ (p : Option Addr) (k : Nat) (wx : World), Calls Tryz.prog 126 #[.slice p 0 k] wx fun e w' => e = .returned (.tuple #[]) ∧ w' = wx := fun p k wx => Any.slices_Sort_int_none Tryz.layS p k wx
    have hc : ∀ (p : Option Addr) (k : Nat) (wx : World), Calls Tryz.prog 127 #[.slice p 0 k] wx fun e w' => e = .returned (.slice p 0 k) ∧ w' = wx := fun p k wx => Any.slices_Compact_int_empty Tryz.layK p k wx
    clear hl h0
    show Calls Tryz.prog 113 #[.slice A 0 c] w (RowP (risZ []) w)
    go_enter Tryz.func113, Tryz.ntmps113
    go_wp2_with (first
      | (go_at_call 88; refine C.mono ?_; rintro e w1 ⟨A1, c1, rfl, hown, hb1⟩)
      | (go_at_call 126; refine (hg _ _ _).mono ?_; rintro e w2 ⟨rfl, rfl⟩)
      | (go_at_call 127; refine (hc _ _ _).mono ?_; rintro e w3 ⟨rfl, rfl⟩))
    go_ret
    rw [HR.out]
    exact ⟨A1, c1, rfl, hown, hb1⟩
  · have hln : l ≠ [] := fun e => h0 (by rw [e]; rfl)
    have hmz : ∀ (g k : Nat) (wx : World), Sort.Holds (Value.int .i64) wx g 0 l.toArray → g < wx.heap.size → Calls Tryz.prog 126 #[.slice (some ⟨g, 0, none⟩) l.length k] wx fun e w' => e = .returned (.tuple #[]) ∧ ∃ n os, w' = grow (putRow (Value.int .i64) (Sort.ahead wx n) g 0 (l.mergeSort fun x y => decide (x ≤ y)).toArray) os := fun g k wx hH hgl => Any.slices_Sort_int Tryz.layS g 0 k l wx hH hgl (by omega)
    have hcz : ∀ (g k : Nat) (wx : World), Sort.Holds (Value.int .i64) wx g 0 (l.mergeSort fun x y => decide (x ≤ y)).toArray → l.length ≤ k → Calls Tryz.prog 127 #[.slice (some ⟨g, 0, none⟩) l.length k] wx fun e w' => e = .returned (.slice (some ⟨g, 0, none⟩) (risZ l).length k) ∧ ∃ q, w' = putRow (Value.int .i64) (Sort.ahead wx q) g 0 (risZ l ++ List.replicate (l.length - (risZ l).length) 0).toArray := fun g k wx hH hk => by
      have hl2 : (l.mergeSort fun x y => decide (x ≤ y)).length = l.length := List.length_mergeSort l
      have := Any.slices_Compact_int Tryz.layK g 0 k (l.mergeSort fun x y => decide (x ≤ y)) wx hH (by omega) (by omega)
      rw [hl2] at this
      exact this
    have HN : Hid (0 < l.length) := by unfold Hid; omega
    clear h0 hln
    go_enter Tryz.func113, Tryz.ntmps113
    go_upto_region 2 with (go_at_call 88; refine C.mono ?_; rintro e w1 ⟨A1, c1, rfl, hown, hb1⟩)
    obtain ⟨g, cap, ev, hbg, hgl, hnc, hcm, hzl, hH⟩ := Lib.holds_of_ownsRow (enc := Value.int .i64) (zs := l) hown (fun e => by injection e with _ e2 _; have := HN.out; omega)
    injection ev with e1 _ e3
    subst e1
    subst e3
    have HO : Hid (w1.ownsRow w.heap.size 3 1 (.slice (some ⟨g, 0, none⟩) l.length c1) l.length (l.map (Value.int .i64))) := hown
    have HB : Hid (Below w.heap.size w w1) := hb1
    clear hown hb1 C hbg hcm hzl
    have C2 := hmz g c1 w1 hH hgl
    clear hmz hH
    go_upto_region 3 with (go_at_call 126; refine C2.mono ?_; rintro e w2 ⟨rfl, nn, os, hw2⟩; have HW2 : Hid (w2 = grow (putRow (Value.int .i64) (Sort.ahead w1 nn) g 0 (l.mergeSort fun x y => decide (x ≤ y)).toArray) os) := hw2; clear hw2)
    have hl2 : (l.mergeSort fun x y => decide (x ≤ y)).length = l.length := List.length_mergeSort l
    have hH2 : Sort.Holds (Value.int .i64) w2 g 0 (l.mergeSort fun x y => decide (x ≤ y)).toArray := by
      rcases HO.out.2 with ⟨h0, _⟩ | ⟨g', cap', cur, hv, hbase, hb, h1, h2, h3, h4⟩
      · cases h0
      cases hv
      have hs := ownsRow_sortedI (n := nn) (os := os) (ts := l.mergeSort fun x y => decide (x ≤ y)) hl2 hbase hb h1 h2 h3
      rw [← HW2.out] at hs
      obtain ⟨g4, cap4, ev4, _, _, _, _, _, hH4⟩ := Lib.holds_of_ownsRow (enc := Value.int .i64) hs (fun e => by cases e)
      injection ev4 with e1 _ _
      injection e1 with e1
      injection e1 with e1
      subst e1
      exact hH4
    have C3 := hcz g c1 w2 hH2 hnc
    have HE2 : Hid (∀ q, (putRow (Value.int .i64) (Sort.ahead w2 q) g 0 (risZ l ++ List.replicate (l.length - (risZ l).length) 0).toArray).ownsRow w.heap.size 3 1 (.slice (some ⟨g, 0, none⟩) (risZ l).length c1) (risZ l).length (iVals .i64 (risZ l)) ∧ Below w.heap.size w (putRow (Value.int .i64) (Sort.ahead w2 q) g 0 (risZ l ++ List.replicate (l.length - (risZ l).length) 0).toArray)) := fun q => by
      rw [HW2.out]
      exact ris_end HO.out HB.out rfl
    clear hcz hH2 HW2 hl2 C2 HO HB
    go_wp2_with (go_at_call 127; go_loud (refine C3.mono ?_; rintro e w3 ⟨rfl, q, hw3⟩; have h5 := HE2.out q; rw [← hw3] at h5; clear hw3))
    go_ret
    exact ⟨_, _, rfl, h5.1, h5.2⟩


end Go.Proofs.YtfnicgihpelhhaaGreat

namespace Go.Proofs.YtfnicgihpelhhaaGreat
open Go.RowKit

theorem vn_set {vs : List Value} {i t : Nat} {v : Value} (ht : t < vs.length) : vn (vs.set i v) t = if i = t then v else vn vs t := by
  unfold vn
  rw [List.getD_eq_getElem?_getD, List.getElem?_set, List.getD_eq_getElem?_getD]
  by_cases e : i = t
  · rw [if_pos e, if_pos e, if_pos (by omega)]; rfl
  · rw [if_neg e, if_neg e]
theorem blk_off {w : World} {b : Nat} {e e2 : TypeId} {sz n : Nat} {v : Value} {xs : List Value} {g : Nat} {cs : Array Value} (h : w.ownsRow b e sz v n xs) (hg : w.heap[g]? = some (.cells cs e2 (0, 0))) (hne : e ≠ e2) : v.ownBlock ≠ some g := by
  rcases h.2 with ⟨rfl, _⟩ | ⟨k, cap, cur, rfl, _, hk, _⟩
  · intro e; cases e
  · intro e
    cases e
    rw [hk] at hg
    injection hg with hg
    injection hg with _ hh
    exact hne hh
/-- A list of lists in the block g, each list a block of its own behind base. -/
structure RowsW (w : World) (base g n : Nat) (vs : List Value) (M : List (List Int)) : Prop where
  box : w.heap[g]? = some (.cells vs.toArray 72 (0, 0))
  len : vs.length = n
  mlen : M.length = n
  hi : base ≤ g
  big : n ≤ 1048576
  row : ∀ i, i < n → w.ownsRow base 3 1 (vn vs i) (rowZ M i).length (iVals .i64 (rowZ M i))
  apart : ∀ i j, i < n → j < n → i ≠ j → ∀ q, (vn vs i).ownBlock = some q → (vn vs j).ownBlock ≠ some q
theorem RowsW.cell {w : World} {base g n : Nat} {vs : List Value} {M : List (List Int)} (h : RowsW w base g n vs M) {i : Nat} (hi : i < n) : w.cell? ⟨g, i, none⟩ = some (vn vs i) := by
  have hl := h.len
  simp [World.cell?, h.box, vn, List.getD, show i < vs.length by omega]
theorem RowsW.fro {w : World} {base g n : Nat} {vs : List Value} {M : List (List Int)} (h : RowsW w base g n vs M) (i : Nat) : w.frozen? ⟨g, i, none⟩ = false := box_fro h.box i
theorem RowsW.keep {w w1 : World} {base g n : Nat} {vs : List Value} {M : List (List Int)} (h : RowsW w base g n vs M) (hb : Below w.heap.size w w1) : RowsW w1 base g n vs M :=
  ⟨lb_box h.box hb, h.len, h.mlen, h.hi, h.big, fun i hi => row_keep (h.row i hi) hb, h.apart⟩
theorem RowsW.lt {w : World} {base g n : Nat} {vs : List Value} {M : List (List Int)} (h : RowsW w base g n vs M) : g < w.heap.size := (Array.getElem?_eq_some_iff.1 h.box).1
theorem RowsW.made (w : World) (n : Nat) (hn : n ≤ 1048576) : RowsW (w.alloc (.cells (madeCells #[.slice none 0 0] n) 72)) w.heap.size w.heap.size n (List.replicate n (.slice none 0 0)) (List.replicate n []) := by
  have hv : ∀ i, vn (List.replicate n (.slice none 0 0)) i = .slice none 0 0 := fun i => by
    unfold vn
    simp only [List.getD, List.getElem?_replicate]
    split <;> rfl
  have hr : ∀ i, rowZ (List.replicate n []) i = [] := fun i => by
    unfold rowZ
    simp only [List.getD, List.getElem?_replicate]
    split <;> rfl
  refine ⟨?_, by simp, by simp, Nat.le_refl _, hn, fun i _ => ?_, fun i j _ _ _ q hq => ?_⟩
  · rw [heap_alloc_new]
    congr 2
    apply Array.ext_getElem?
    intro i
    by_cases hi : i < n
    · simp [madeCells, hi, Nat.mod_one]
    · rw [Array.getElem?_eq_none (by simp [madeCells]; omega), Array.getElem?_eq_none (by simp; omega)]
  · rw [hv, hr]
    exact World.ownsRow_nil _ _ _ _
  · rw [hv] at hq
    cases hq
/-- One list is another one now. -/
theorem RowsW.put {w w1 : World} {base g n : Nat} {vs : List Value} {M : List (List Int)} (h : RowsW w base g n vs M) {i : Nat} (hi : i < n) {v : Value} {l : List Int} (hv : w1.ownsRow base 3 1 v l.length (iVals .i64 l)) (hg : w.grownBy w1 (vn vs i).ownBlock) (hloc : ∀ q, v.ownBlock = some q → (vn vs i).ownBlock = some q ∨ w.heap.size ≤ q) : RowsW (w1.setCell ⟨g, i, none⟩ v) base g n (vs.set i v) (M.set i l) := by
  have hlen := h.len
  have hml := h.mlen
  have hbox1 : w1.heap[g]? = some (.cells vs.toArray 72 (0, 0)) := by
    rw [hg.block g h.lt (fun e => blk_off (h.row i hi) h.box (by decide) e.symm)]
    exact h.box
  have hoff : ∀ t, t < n → t ≠ i → w1.ownsRow base 3 1 (vn vs t) (rowZ M t).length (iVals .i64 (rowZ M t)) := fun t ht hti => by
    refine (h.row t ht).kept hg ?_
    cases hk : (vn vs t).ownBlock with
    | none => exact .inl rfl
    | some k => exact .inr fun e => h.apart t i ht hi hti k hk e.symm
  refine ⟨?_, by rw [List.length_set]; exact hlen, by rw [List.length_set]; exact hml, h.hi, h.big, fun t ht => ?_, fun t s ht hs hts q hq hq2 => ?_⟩
  · rw [box_set hbox1]
    simp
  · rw [vn_set (by omega), rowZ_set (by omega)]
    by_cases e : i = t
    · rw [if_pos e, if_pos e]
      exact ownsRow_setCell_other hv (blk_off hv hbox1 (by decide)) _
    · rw [if_neg e, if_neg e]
      have h1 := hoff t ht (fun e2 => e e2.symm)
      exact ownsRow_setCell_other h1 (blk_off h1 hbox1 (by decide)) _
  · rw [vn_set (by omega)] at hq hq2
    by_cases e : i = t
    · rw [if_pos e] at hq
      rw [if_neg (by omega)] at hq2
      rcases hloc q hq with h1 | h1
      · exact h.apart s i hs hi (by omega) q hq2 h1
      · have := ((h.row s hs).lt q hq2).2
        omega
    · rw [if_neg e] at hq
      by_cases e2 : i = s
      · rw [if_pos e2] at hq2
        rcases hloc q hq2 with h1 | h1
        · exact h.apart t i ht hi (by omega) q hq h1
        · have := ((h.row t ht).lt q hq).2
          omega
      · rw [if_neg e2] at hq2
        exact h.apart t s ht hs hts q hq hq2
theorem RowsW.grown {w w1 : World} {base g n : Nat} {vs : List Value} {M : List (List Int)} (h : RowsW w base g n vs M) {i : Nat} (hi : i < n) (hg : w.grownBy w1 (vn vs i).ownBlock) : w1.cell? ⟨g, i, none⟩ = some (vn vs i) ∧ w1.frozen? ⟨g, i, none⟩ = false := by
  have hb : w1.heap[g]? = some (.cells vs.toArray 72 (0, 0)) := by
    rw [hg.block g h.lt (fun e => blk_off (h.row i hi) h.box (by decide) e.symm)]
    exact h.box
  have hl := h.len
  exact ⟨by simp [World.cell?, hb, vn, List.getD, show i < vs.length by omega], box_fro hb i⟩
theorem RowsW.rows {w : World} {base g n : Nat} {vs : List Value} {M : List (List Int)} (h : RowsW w base g n vs M) : RowsZ w base (.slice (some ⟨g, 0, none⟩) M.length n) vs M := by
  have hl := h.len
  have hm := h.mlen
  have hb := h.big
  refine ⟨⟨by omega, .inr ⟨g, n, vs.toArray, rfl, h.hi, h.box, by omega, by unfold maxLen; omega, by simp; omega, ?_⟩⟩, fun i hi => h.row i (by omega)⟩
  rw [List.take_of_length_le (by simp; omega)]
theorem make_sl (n : Nat) (hn : n ≤ 1048576) (w : World) : (Instr.makeSlice 70 (.int .i64 (n : Int)) (.int .i64 (n : Int))).run Tryz.prog w = .ok (.slice (some ⟨w.heap.size, 0, none⟩) n n) (w.alloc (.cells (madeCells #[.slice none 0 0] n) 72)) := by
  obtain ⟨i, hi, hz, hs, hb⟩ := infoS
  have h := run_makeSlice (P := Tryz.prog) w 70 72 i _ Tryz.underlying70 hi hz .i64 .i64 (n : Int) (n : Int) (by omega) (by omega) (by rw [hs]; omega) (by rw [hb]; omega) (by omega)
  rw [hs, show ((n : Int)).toNat = n by omega, Nat.mul_one] at h
  exact h
theorem RowsW.below {w w1 w2 : World} {base g n : Nat} {vs : List Value} {M : List (List Int)} {B : Nat} (h : RowsW w base g n vs M) {i : Nat} (hi : i < n) (hB : B ≤ base) (hw : Below B w2 w) (hz : B ≤ w.heap.size) (hg : w.grownBy w1 (vn vs i).ownBlock) (v : Value) : Below B w2 (w1.setCell ⟨g, i, none⟩ v) := by
  have h1 : Below B w2 w1 := hw.grown hg hz (fun b hb => Nat.le_trans hB ((h.row i hi).lt b hb).1)
  exact grown_belowR h1 (gset11 _ _ _ _) (Nat.le_trans hB h.hi) (Nat.le_trans hz hg.size)


end Go.Proofs.YtfnicgihpelhhaaGreat
