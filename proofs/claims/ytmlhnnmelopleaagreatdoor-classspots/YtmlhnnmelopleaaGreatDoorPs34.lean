/-
  A map of the blocks that wait: put, has, taken out one by one. What lies in memory while the blocks that wait are gone through.
-/
import Derived.Test.YtmlhnnmelopleaaGreatDoorProg
import Derived.WalkKit
import Derived.WalkSpells
import Derived.WalkLawsBesides
import Derived.RowKit3
import Derived.Below
import Derived.Deep.QuietTactic
import Derived.BigQuiet
import Derived.WalkSmall
import Derived.Laws.Rows
import Derived.Maps.RangeWalk
import Derived.Test.YtmlhnnmelopleaaGreatDoorPs20
import Derived.Test.YtmlhnnmelopleaaGreatDoorPs26
import Derived.Test.YtmlhnnmelopleaaGreatDoorPs29
import Derived.Test.YtmlhnnmelopleaaGreatDoorPs33
namespace Go.Proofs.YtmlhnnmelopleaaGreatDoor
open Go.RowKit

open Go.Maps Go.WideMaps
theorem mapW : Tryz.prog.underlying 158 = some (.map 3 138) := by kernel_rfl
theorem zeroW (w : World) : (zeroValue 138).run Tryz.prog w = .ok (.agg #[]) w := by kernel_rfl
theorem mkW (w : World) : (Instr.makeMap 158 none).run Tryz.prog w = .ok (.map (some w.heap.size)) (w.alloc (.map #[] 0)) := by
  first | kernel_rfl | (simp [Instr.makeMap, run_underlying mapW, Result.andThen])
theorem Mks.lookW {w : World} {b n : Nat} {f : Int → Bool} (h : Mks w b n f) {x : Int} (h0 : -9223372036854775808 ≤ x) (h1 : x ≤ 9223372036854775807) : (Instr.lookup 158 (.map (some b)) (.int .i64 x) true).run Tryz.prog w = .ok (.tuple #[.agg #[], .bool (f x)]) w := by
  obtain ⟨D, h, h3⟩ := h
  obtain ⟨v, ps, hrun, hv⟩ := h.look_ok lawI mapW (zeroW w) unitElem_mk (keyI h0 h1)
  obtain ⟨rfl, _⟩ := unitElem_inv hv
  rw [hrun, h3]
theorem Mks.putW {w : World} {b n : Nat} {f : Int → Bool} (h : Mks w b n f) (hn : n < 1000000000000) {x : Int} (h0 : -9223372036854775808 ≤ x) (h1 : x ≤ 9223372036854775807) : ∃ w', (Instr.mapUpdate 158 (.map (some b)) (.int .i64 x) (.agg #[])).run Tryz.prog w = .ok () w' ∧ Mks w' b (n + 1) (setF f x) ∧ w.grownBy w' (some b) := by
  obtain ⟨D, h, h3⟩ := h
  obtain ⟨w', hrun, k1, hg⟩ := h.update lawI mapW (by unfold maxLen; omega) (keyI h0 h1) unitElem_mk
  refine ⟨w', hrun, ⟨_, k1, fun y => ?_⟩, hg⟩
  unfold setF
  cases hy : (y == x) with
  | true =>
    have : y = x := by simpa using hy
    subst this
    exact Maps.has_put_same h.isMap (by simp [WideAt.IsKeyLit]) _
  | false =>
    have hne : (Lit.int .i64 y) ≠ .int .i64 x := fun e => by
      injection e with _ e
      subst e
      simp at hy
    rw [Maps.has_put_other hne, Bool.false_or]
    exact h3 y
theorem wpList_mks_putW (w : World) {ops : Array Oper} {rest : List Oper} {o : Oper} {a : Act} {Q : Exit → Act → World → Prop} (hg : o.guard = none) (m x v : Operand) (hop : o.op = Op.mapUpdate 158 m x v)
    (b n : Nat) (f : Int → Bool) (hk : Mks w b n f) (hn : n < 1000000000000) (y : Int) (h0 : -9223372036854775808 ≤ y) (h1 : y ≤ 9223372036854775807) (hm : a.eval m = .map (some b)) (hx : a.eval x = .int .i64 y) (hv : a.eval v = .agg #[])
    (hK : ∀ w', Mks w' b (n + 1) (setF f y) → w.grownBy w' (some b) → wpList Tryz.prog ops Q rest (a.put o.dst undef) w') : wpList Tryz.prog ops Q (o :: rest) a w := by
  refine wpList_plain hg fun K' hK' => ?_
  obtain ⟨w', hrun, k1, k2⟩ := hk.putW hn h0 h1
  unfold Oper.wp
  simp [execOp, hop, hm, hx, hv, hrun, Result.andThen]
  exact hK' _ _ (hK w' k1 k2)
set_option maxHeartbeats 1000000 in
theorem wput_any (b n : Nat) (f : Int → Bool) (x : Int) (w : World) (hk : Mks w b n f) (hn : n < 1000000000000) (h0 : -9223372036854775808 ≤ x) (h1 : x ≤ 9223372036854775807) :
    Calls Tryz.prog 108 #[.map (some b), .int .i64 x] w fun e w' => e = .returned (.tuple #[]) ∧ Mks w' b (n + 1) (setF f x) ∧ w.grownBy w' (some b) := by
  have HK : Hid (Mks w b n f) := hk
  clear hk
  go_enter Tryz.func108, Tryz.ntmps108
  go_wp2_with (at_mapUpdate; refine wpList_mks_putW _ rfl _ _ _ rfl b n f HK.out hn x h0 h1 rfl rfl rfl ?_; intro w2 hk2 hg2)
  refine bodyPost_end (v := .tuple #[]) (by simp [results, Tryz.results108, go_sem]) rfl ?_
  exact ⟨rfl, hk2, hg2⟩
set_option maxHeartbeats 1000000 in
theorem whas_any (b n : Nat) (f : Int → Bool) (x : Int) (w : World) (hk : Mks w b n f) (h0 : -9223372036854775808 ≤ x) (h1 : x ≤ 9223372036854775807) :
    Calls Tryz.prog 114 #[.map (some b), .int .i64 x] w fun e w' => e = .returned (.bool (f x)) ∧ Below w.heap.size w w' := by
  have hlk := hk.lookW h0 h1
  clear hk
  generalize f x = v at *
  go_enter Tryz.func114, Tryz.ntmps114
  go_wp2
  go_ret
  exact ⟨rfl, lb_alloc (Below.refl _ _) _⟩
/-- How many there are: none just if it has none. -/
theorem size_none {D : DataW Unit} {w : World} {b n : Nat} (h : w.ownsMap Tryz.prog 3 unitElem b n D) (hz : Maps.size D = 0) (x : Int) : Maps.has D (.int .i64 x) = false := by
  obtain ⟨es, rfl, _, _⟩ := h.entries lawI
  have : es = [] := List.eq_nil_of_length_eq_zero hz
  subst this
  rfl
/-- The range under way: f: what the map has, g: what is still to come. -/
def Rn (w : World) (b r n : Nat) (f g : Int → Bool) (cnt : Nat) : Prop := ∃ (D : DataW Unit) (left : Lit → Bool), w.ranges Tryz.prog 3 unitElem b r n D left cnt ∧ (∀ x : Int, Maps.has D (.int .i64 x) = f x) ∧ ∀ x : Int, left (.int .i64 x) = g x
section
variable {w w1 : World} {b r n : Nat} {f g : Int → Bool} {cnt : Nat}
theorem Rn.mks (h : Rn w b r n f g cnt) : Mks w b n f := by
  obtain ⟨D, left, h1, h2, _⟩ := h
  exact ⟨D, h1.owns, h2⟩
theorem Rn.left (h : Rn w b r n f g cnt) : w.rangeLeft b r = cnt := by
  obtain ⟨D, left, h1, _⟩ := h
  exact h1.left_eq
theorem Rn.ltR (h : Rn w b r n f g cnt) : r < w.heap.size := by
  obtain ⟨D, left, h1, _⟩ := h
  exact h1.lt
theorem Rn.kept {row : Option Nat} (h : Rn w b r n f g cnt) (hg : w.grownBy w1 row) (hb : some b ≠ row) (hr : some r ≠ row) : Rn w1 b r n f g cnt := by
  obtain ⟨D, left, h1, h2⟩ := h
  exact ⟨D, left, h1.kept hg hb hr, h2⟩
theorem Rn.fit {f' g' : Int → Bool} (h : Rn w b r n f g cnt) (ef : ∀ x, f x = f' x) (eg : ∀ x, g x = g' x) : Rn w b r n f' g' cnt := by
  obtain ⟨D, left, h1, h2, h3⟩ := h
  exact ⟨D, left, h1, fun x => by rw [← ef, h2], fun x => by rw [← eg, h3]⟩
/-- A range's blocks are no row of cells. -/
theorem Rn.notcells (h : Rn w b r n f g cnt) {k : Nat} {cs : Array Value} {t : TypeId} (hk : w.heap[k]? = some (.cells cs t (0, 0))) : k ≠ b ∧ k ≠ r := by
  obtain ⟨D, left, h1, _⟩ := h
  obtain ⟨es, clock, since, seen, c0, hb, _, _, _, hr, _⟩ := h1
  constructor
  · rintro rfl
    rw [hb] at hk; cases hk
  · rintro rfl
    rw [hr] at hk; cases hk
end
def cutF (f : Int → Bool) (x : Int) (y : Int) : Bool := f y && !(y == x)
theorem lit_same (x y : Int) : (Lit.int .i64 y).sameKey (.int .i64 x) = (y == x) := by
  cases h : (y == x) with
  | true =>
    have : y = x := by simpa using h
    subst this
    exact WideAt.sameKey_self (by simp [WideAt.IsKeyLit])
  | false =>
    cases h2 : (Lit.int .i64 y).sameKey (.int .i64 x) with
    | false => rfl
    | true =>
      have := WideAt.sameKey_eq h2
      injection this with _ e
      subst e
      simp at h
set_option maxRecDepth 100000 in
theorem wpList_rn_range (w : World) {ops : Array Oper} {rest : List Oper} {o : Oper} {a : Act} {Q : Exit → Act → World → Prop} (hg : o.guard = none) (m : Operand) (hop : o.op = Op.range 158 m)
    (b n : Nat) (f : Int → Bool) (hk : Mks w b n f) (hm : a.eval m = .map (some b))
    (hK : ∀ w' cnt, Rn w' b w.heap.size n f f cnt → w.grownBy w' none → w'.heap.size = w.heap.size + 1 → wpList Tryz.prog ops Q rest (a.put o.dst (.pointer (some ⟨w.heap.size, 0, none⟩))) w') : wpList Tryz.prog ops Q (o :: rest) a w := by
  obtain ⟨D, h, h3⟩ := hk
  exact wpList_range_own w hg m _ hop 3 _ lawI mapW unitElem b n D hm h fun w' h1 h2 h4 => hK w' _ ⟨D, _, h1, h3, h3⟩ h2 h4
set_option maxRecDepth 100000 in
theorem wpList_rn_next (w : World) {ops : Array Oper} {rest : List Oper} {o : Oper} {a : Act} {Q : Exit → Act → World → Prop} (hg : o.guard = none) (it : Operand) (hop : o.op = Op.next it false)
    (b r n : Nat) (f g : Int → Bool) (cnt : Nat) (hit : a.eval it = .pointer (some ⟨r, 0, none⟩)) (h : Rn w b r n f g cnt)
    (hDone : (∀ x, g x = false) → wpList Tryz.prog ops Q rest (a.put o.dst (.tuple #[.bool false])) w)
    (hMore : ∀ (x : Int) (w' : World) (cnt' : Nat), g x = true → -9223372036854775808 ≤ x → x ≤ 9223372036854775807 → Rn w' b r n f (cutF g x) cnt' → cnt' < cnt → w.grownBy w' (some r) → w'.heap.size = w.heap.size → (Instr.entry (.pointer (some ⟨r, 0, none⟩))).run Tryz.prog w' = .ok (.tuple #[.int .i64 x, .agg #[]]) w' → wpList Tryz.prog ops Q rest (a.put o.dst (.tuple #[.bool true, .int .i64 x, .agg #[]])) w') : wpList Tryz.prog ops Q (o :: rest) a w := by
  obtain ⟨D, left, h1, h2, h3⟩ := h
  refine wpList_next_ranges w hg it hop 3 lawI unitElem (Value.int .i64) (fun _ : Unit => .agg #[]) (fun key kl hkey => by obtain ⟨x, rfl, _⟩ := Maps.keyOf_int_inv Tryz.underlying3 hkey; exact ⟨x, rfl⟩) (fun v y hv => ⟨(), (unitElem_inv hv).1⟩) b r n D left cnt hit h1 (fun _ hl => hDone fun x => by rw [← h3, hl]) ?_
  intro x c kl y w' cnt' hkey hlk hv hat hrg hlt hgr hsz hen
  obtain ⟨x', ex, rfl, hwx⟩ := Maps.keyOf_int_inv Tryz.underlying3 hkey
  cases ex
  have hb : -9223372036854775808 ≤ x ∧ x ≤ 9223372036854775807 := by
    simp [Lit.wf, IntKind.min, IntKind.max, IntKind.signed, IntKind.bits] at hwx
    omega
  refine hMore x w' cnt' (by rw [← h3]; exact hlk) hb.1 hb.2 ⟨D, _, hrg, h2, fun y => ?_⟩ hlt hgr hsz hen
  show (left _ && !_) = _
  rw [h3, lit_same]; rfl
set_option maxRecDepth 100000 in
theorem wpList_rn_delete (w : World) {ops : Array Oper} {rest : List Oper} {o : Oper} {a : Act} {Q : Exit → Act → World → Prop} (hg : o.guard = none) (m x : Operand) (hop : o.op = Op.call { callee := Callee.builtin Builtin.delete, args := #[m, x], argTypes := #[158, 3] })
    (b r n : Nat) (f g : Int → Bool) (cnt : Nat) {y : Int} (h : Rn w b r n f (cutF g y) cnt) (h0 : -9223372036854775808 ≤ y) (h1 : y ≤ 9223372036854775807) (hm : a.eval m = .map (some b)) (hx : a.eval x = .int .i64 y)
    (hK : ∀ w' cnt', Rn w' b r n (cutF f y) (cutF g y) cnt' → cnt' ≤ cnt → w.grownBy w' (some b) → w'.heap.size = w.heap.size → wpList Tryz.prog ops Q rest (a.put o.dst (.tuple #[])) w') : wpList Tryz.prog ops Q (o :: rest) a w := by
  obtain ⟨D, left, k1, k2, k3⟩ := h
  refine wpList_delete_ranges w hg m x _ 3 hop _ lawI mapW unitElem b r n D left cnt hm k1 _ _ hx (keyI h0 h1) ?_
  intro w' cnt' hrg hle ht
  refine hK w' cnt' ⟨_, _, hrg, fun z => ?_, fun z => ?_⟩ hle ht.grown ?_
  · by_cases e : z = y
    · subst e
      rw [Maps.has_del_same]
      simp [cutF]
    · rw [Maps.has_del_other (by intro h; injection h with _ h; exact e h), k2]
      simp [cutF, e]
  · show (left _ && !_) = _
    rw [k3, lit_same]
    unfold cutF
    cases g z <;> cases (z == y) <;> rfl
  · obtain ⟨es, c, es', c', _, e⟩ := ht
    rw [e]
    simp [ChangeMaps.setBlock]


end Go.Proofs.YtmlhnnmelopleaaGreatDoor

namespace Go.Proofs.YtmlhnnmelopleaaGreatDoor
open Go.RowKit

/-- The map that is gone through, the one that is filled anew, the sets. -/
structure Gm (w0 wr : World) (P : Nat) (A : Option Addr) (c N gr gw gi go b r bA n : Nat) (R W F G : Int → Nat) (f g fa : Int → Bool) (cnt na : Nat) : Prop where
  rn : Rn wr b r n f g cnt
  an : Mks wr bA na fa
  st : SetsAt wr P A c N gr gw gi go R W F G
  bel : Below w0.heap.size w0 wr
  ba : b ≠ bA
  ra : r ≠ bA
  hi : w0.heap.size ≤ gi ∧ w0.heap.size ≤ go ∧ w0.heap.size ≤ b ∧ w0.heap.size ≤ r ∧ w0.heap.size ≤ bA
section
variable {w0 wr w1 : World} {P : Nat} {A : Option Addr} {c N gr gw gi go b r bA n : Nat} {R W F G : Int → Nat} {f g fa : Int → Bool} {cnt na : Nat}
theorem Rn.obj (h : Rn wr b r n f g cnt) : (∀ cs t, wr.heap[b]? ≠ some (.cells cs t (0, 0))) ∧ (∀ cs t, wr.heap[r]? ≠ some (.cells cs t (0, 0))) := by
  constructor
  · intro cs t e
    exact (h.notcells e).1 rfl
  · intro cs t e
    exact (h.notcells e).2 rfl
theorem Mks.obj (h : Mks wr bA na fa) : ∀ cs t, wr.heap[bA]? ≠ some (.cells cs t (0, 0)) := by
  obtain ⟨D, ⟨es, clock, h1, _⟩, _⟩ := h
  intro cs t e
  rw [h1] at e
  cases e
theorem Rn.neBR (h : Rn wr b r n f g cnt) : b ≠ r := by
  obtain ⟨D, left, h1, _⟩ := h
  exact fun e => h1.ne e.symm
theorem Gm.keep (h : Gm w0 wr P A c N gr gw gi go b r bA n R W F G f g fa cnt na) (hb : Below wr.heap.size wr w1) : Gm w0 w1 P A c N gr gw gi go b r bA n R W F G f g fa cnt na :=
  { h with rn := h.rn.kept (grown_of (row := none) hb) (by simp) (by simp), an := h.an.keep hb, st := h.st.keep hb, bel := lb_trans h.bel hb }
theorem UsAt.obj {gx m : Nat} {H : Int → Nat} (h : UsAt wr gx m H) : ∃ cs t, wr.heap[gx]? = some (.cells cs t (0, 0)) := by
  obtain ⟨cs, h1, _⟩ := h
  exact ⟨cs, _, h1⟩
theorem Gm.offs (h : Gm w0 wr P A c N gr gw gi go b r bA n R W F G f g fa cnt na) {gx m : Nat} {H : Int → Nat} (hu : UsAt wr gx m H) : gx ≠ b ∧ gx ≠ r ∧ gx ≠ bA := by
  obtain ⟨cs, t, e⟩ := hu.obj
  refine ⟨(h.rn.notcells e).1, (h.rn.notcells e).2, ?_⟩
  rintro rfl
  exact h.an.obj _ _ e
theorem Gm.putF (h : Gm w0 wr P A c N gr gw gi go b r bA n R W F G f g fa cnt na) {k : Nat} (hk : k < N) (v : Nat) : Gm w0 (wr.setCell ⟨gi, k, none⟩ (.int .u16 (v : Int))) P A c N gr gw gi go b r bA n R W (putS F (k : Int) v) G f g fa cnt na := by
  obtain ⟨e1, e2, e3⟩ := h.offs h.st.inn
  have hg := gset11 wr gi k (.int .u16 (v : Int))
  exact { h with rn := h.rn.kept hg (by simpa using e1.symm) (by simpa using e2.symm), an := h.an.kept hg (by simpa using e3.symm), st := h.st.putF hk v, bel := below_setAt h.bel h.hi.1 h.bel.size }
theorem Gm.putG (h : Gm w0 wr P A c N gr gw gi go b r bA n R W F G f g fa cnt na) {k : Nat} (hk : k < N) (v : Nat) : Gm w0 (wr.setCell ⟨go, k, none⟩ (.int .u16 (v : Int))) P A c N gr gw gi go b r bA n R W F (putS G (k : Int) v) f g fa cnt na := by
  obtain ⟨e1, e2, e3⟩ := h.offs h.st.out
  have hg := gset11 wr go k (.int .u16 (v : Int))
  exact { h with rn := h.rn.kept hg (by simpa using e1.symm) (by simpa using e2.symm), an := h.an.kept hg (by simpa using e3.symm), st := h.st.putG hk v, bel := below_setAt h.bel h.hi.2.1 h.bel.size }
theorem Gm.putA (h : Gm w0 wr P A c N gr gw gi go b r bA n R W F G f g fa cnt na) {na' : Nat} {fa' : Int → Bool} (hm : Mks w1 bA na' fa') (hg : wr.grownBy w1 (some bA)) : Gm w0 w1 P A c N gr gw gi go b r bA n R W F G f g fa' cnt na' :=
  { h with rn := h.rn.kept hg (by simpa using h.ba) (by simpa using h.ra), an := hm, st := h.st.kept hg h.an.obj, bel := grown_belowR h.bel hg h.hi.2.2.2.2 h.bel.size }
theorem Gm.step (h : Gm w0 wr P A c N gr gw gi go b r bA n R W F G f g fa cnt na) {g' : Int → Bool} {cnt' : Nat} (hm : Rn w1 b r n f g' cnt') (hg : wr.grownBy w1 (some r)) : Gm w0 w1 P A c N gr gw gi go b r bA n R W F G f g' fa cnt' na :=
  { h with rn := hm, an := h.an.kept hg (by simpa using h.ra.symm), st := h.st.kept hg h.rn.obj.2, bel := grown_belowR h.bel hg h.hi.2.2.2.1 h.bel.size }
theorem Gm.drop (h : Gm w0 wr P A c N gr gw gi go b r bA n R W F G f g fa cnt na) {f' g' : Int → Bool} {cnt' : Nat} (hm : Rn w1 b r n f' g' cnt') (hg : wr.grownBy w1 (some b)) : Gm w0 w1 P A c N gr gw gi go b r bA n R W F G f' g' fa cnt' na :=
  { h with rn := hm, an := h.an.kept hg (by simpa using h.ba.symm), st := h.st.kept hg h.rn.obj.1, bel := grown_belowR h.bel hg h.hi.2.2.1 h.bel.size }
end
def orB (f g : Int → Bool) (x : Int) : Bool := f x || g x
theorem lowS_top (F : Int → Nat) : ∀ n, lowS F n ≤ 65535 * n
  | 0 => Nat.le_refl _
  | n + 1 => by
    have := lowS_top F n
    unfold lowS
    omega
/-- The plain half beside it. -/
structure Gp (M : List (List Int)) (N : Nat) (R W F G : Int → Nat) (f fa : Int → Bool) (na L0 : Nat) : Prop where
  wk : Wk M (fun j => R (j : Int)) (fun j => W (j : Int)) N F G (orB f fa)
  inb : ∀ x, f x = true ∨ fa x = true → 0 ≤ x ∧ x < (N : Int)
  low : na + lowS G N ≤ L0
structure Gq (M : List (List Int)) (N : Nat) (l : List Int) (k m : Nat) (R W F G : Int → Nat) (f fa : Int → Bool) (na L0 : Nat) : Prop where
  md : Md M (fun j => R (j : Int)) (fun j => W (j : Int)) N l k m F G (orB f fa)
  inb : ∀ x, f x = true ∨ fa x = true → 0 ≤ x ∧ x < (N : Int)
  low : na + lowS G N ≤ L0
section
variable {M : List (List Int)} {N : Nat} {l : List Int} {k m : Nat} {R W F G : Int → Nat} {f fa : Int → Bool} {na L0 : Nat}
theorem Gp.take (h : Gp M N R W F G f fa na L0) (hR : ∀ x, R x < 65536) (hW : ∀ x, W x < 65536) (hk : k < N) (hf : f (k : Int) = true) : Gq M N l k 0 R W (putS F (k : Int) (insN (R (k : Int)) (W (k : Int)) (G (k : Int)))) G (cutF f (k : Int)) fa na L0 := by
  refine ⟨h.wk.take (fun _ => hR _) (fun _ => hW _) hk (by simp [orB, hf]) fun j _ hne => ?_, fun x hx => h.inb x ?_, h.low⟩
  · unfold orB cutF
    have : ((j : Int) == (k : Int)) = false := by simp; omega
    rw [this, Bool.not_false, Bool.and_true]
  · rcases hx with hx | hx
    · unfold cutF at hx
      rw [Bool.and_eq_true] at hx
      exact .inl hx.1
    · exact .inr hx
theorem Gq.skip (h : Gq M N l k m R W F G f fa na L0) {t : Nat} (ht : nth l m = (t : Int)) (e : lessN (F (k : Int)) (G (t : Int)) = 0) : Gq M N l k (m + 1) R W F G f fa na L0 :=
  ⟨h.md.skip (by rw [ht]; exact less_zero (h.md.grw.lt _).2 (h.md.grw.lt _).1 e), h.inb, h.low⟩
theorem Gq.old (h : Gq M N l k m R W F G f fa na L0) (hW : ∀ x, W x < 65536) (hk : k < N) {t : Nat} (htN : t < N) (ht : nth l m = (t : Int)) (hm : (k : Int) ∈ rowZ M t) (e : lessN (F (k : Int)) (G (t : Int)) ≠ 0) (hf : f (t : Int) = true) : Gq M N l k (m + 1) R W F (putS G (t : Int) (G (t : Int) ||| F (k : Int))) f fa na L0 := by
  refine ⟨h.md.grow (fun _ => hW _) hk htN ht hm (fun j _ _ => rfl) (by simp [orB, hf]), h.inb, ?_⟩
  have := lowS_put (F := G) htN (or_grows e (h.md.grw.lt _).2) (orN_lt (h.md.grw.lt (t : Int)).2 (h.md.grw.lt (k : Int)).1)
  have := h.low
  omega
theorem Gq.new (h : Gq M N l k m R W F G f fa na L0) (hW : ∀ x, W x < 65536) (hk : k < N) {t : Nat} (htN : t < N) (ht : nth l m = (t : Int)) (hm : (k : Int) ∈ rowZ M t) (e : lessN (F (k : Int)) (G (t : Int)) ≠ 0) : Gq M N l k (m + 1) R W F (putS G (t : Int) (G (t : Int) ||| F (k : Int))) f (setF fa (t : Int)) (na + 1) L0 := by
  refine ⟨h.md.grow (fun _ => hW _) hk htN ht hm (fun j _ hne => ?_) (by simp [orB, setF]), fun x hx => ?_, ?_⟩
  · unfold orB setF
    have : ((j : Int) == (t : Int)) = false := by simp; omega
    rw [this, Bool.false_or]
  · rcases hx with hx | hx
    · exact h.inb x (.inl hx)
    · unfold setF at hx
      rw [Bool.or_eq_true] at hx
      rcases hx with hx | hx
      · have : x = (t : Int) := by simpa using hx
        omega
      · exact h.inb x (.inr hx)
  · have := lowS_put (F := G) htN (or_grows e (h.md.grw.lt _).2) (orN_lt (h.md.grw.lt (t : Int)).2 (h.md.grw.lt (k : Int)).1)
    have := h.low
    omega
theorem Gq.done (h : Gq M N l k m R W F G f fa na L0) (hl : ∀ j : Nat, j < N → (k : Int) ∈ rowZ M j → (j : Int) ∈ l) (hm : m = l.length) : Gp M N R W F G f fa na L0 := ⟨h.md.wk hl hm, h.inb, h.low⟩
theorem Gp.lt (h : Gp M N R W F G f fa na L0) (x : Int) : F x < 65536 ∧ G x < 65536 := h.wk.grw.lt x
theorem Gq.lt (h : Gq M N l k m R W F G f fa na L0) (x : Int) : F x < 65536 ∧ G x < 65536 := h.md.grw.lt x
theorem Gp.nalt (h : Gp M N R W F G f fa na L0) (hL : L0 ≤ 65535 * N) (hN : N ≤ 1048576) : na < 1000000000000 := by
  have := h.low
  omega
theorem Gq.nalt (h : Gq M N l k m R W F G f fa na L0) (hL : L0 ≤ 65535 * N) (hN : N ≤ 1048576) : na < 1000000000000 := by
  have := h.low
  omega
end
/-- What goThrough answers. -/
def ThP (w0 : World) (M : List (List Int)) (P : Nat) (A : Option Addr) (c N gr gw gi go : Nat) (R W : Int → Nat) (L0 : Nat) (e : Ending) (w' : World) : Prop := ∃ (b na : Nat) (F G : Int → Nat) (fa : Int → Bool), e = .returned (.map (some b)) ∧ Mks w' b na fa ∧ SetsAt w' P A c N gr gw gi go R W F G ∧ Gp M N R W F G fa noF na L0 ∧ Below w0.heap.size w0 w' ∧ w0.heap.size ≤ b


end Go.Proofs.YtmlhnnmelopleaaGreatDoor
