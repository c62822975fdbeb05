/-
  The rows of the text while it is made. A region of a round that draws its order, walked as one of a function. same: two answers that tell the same. What join holds between two rounds.
-/
import Derived.Test.YthpkekpojhmaaaaGreatDoorProg
import Derived.WalkKit
import Derived.WalkSpells
import Derived.WalkLawsBesides
import Derived.RowKit3
import Derived.Below
import Derived.Deep.QuietTactic
import Derived.BigQuiet
import Derived.WalkSmall
import Derived.Laws.Rows
import Derived.Test.YthpkekpojhmaaaaGreatDoorP28
import Derived.RangeFuncCalls
import Derived.Shelf.Abstract
import Derived.Shelf.RegionOpen
import Derived.OwnWalkIn
import Derived.TacticsInMore
import Derived.OrdersHeld
import Derived.OrdersIn
import Derived.Deep.RegionHeld3
import Derived.Test.YthpkekpojhmaaaaGreatDoorP21
import Derived.RangeFuncNested
import Derived.RangeFuncBound
import Derived.RangeFuncLeaves
import Derived.LoopNIn
import Derived.LoopIn
import Derived.Maps.AppendAt
import Derived.Test.YthpkekpojhmaaaaGreatDoorP27
namespace Go.Proofs.YthpkekpojhmaaaaGreatDoor
open Go.RowKit

/-- The text while an object's words are patched. -/
def rowL (l : List Ob) (k : Nat) (f : Nat → Int) : List Int := textF l k ++ ((List.range (ob l k).code.length).map f ++ [0])
def movF (l : List Ob) (k j i : Nat) : Int := if i < j then movV (nth (ob l k).code i) (bsF l k) else nth (ob l k).code i
def relF (l : List Ob) (k r i : Nat) : Int := if 0 ≤ atR (ob l k).rs i ∧ atR (ob l k).rs i < r then wordF l k i else movV (nth (ob l k).code i) (bsF l k)
theorem rowL_len (l : List Ob) (k : Nat) (f : Nat → Int) : (rowL l k f).length = bsF l (k + 1) := by
  unfold rowL
  rw [List.length_append, textF_len, bsF]
  simp
  omega
theorem rowL_nth {l : List Ob} {k i : Nat} {f : Nat → Int} (hi : i < (ob l k).code.length) : nth (rowL l k f) (bsF l k + i) = f i := by
  unfold rowL
  rw [← textF_len l k, nth_right, nth_left (by simpa using hi)]
  simp [nth, List.getD, hi]
theorem rowL_congr {l : List Ob} {k : Nat} {f g : Nat → Int} (h : ∀ i, i < (ob l k).code.length → f i = g i) : rowL l k f = rowL l k g := by
  unfold rowL
  congr 2
  exact List.map_congr_left fun x hx => h x (by simpa using hx)
theorem rowL_set {l : List Ob} {k i : Nat} {f : Nat → Int} {v : Int} (hi : i < (ob l k).code.length) : (rowL l k f).set (bsF l k + i) v = rowL l k (fun j => if j = i then v else f j) := by
  unfold rowL
  rw [List.set_append, if_neg (by rw [textF_len]; omega), textF_len, Nat.add_sub_cancel_left, List.set_append, if_pos (by simpa using hi)]
  congr 2
  apply List.ext_getElem?
  intro j
  rw [List.getElem?_set]
  by_cases hj : j < (ob l k).code.length
  · by_cases e : i = j
    · subst e; simp [hi]
    · simp [hj, e]
      intro h
      exact absurd h.symm e
  · by_cases e : i = j
    · omega
    · simp [hj, e]
theorem rowL_start (l : List Ob) (k : Nat) : rowL l k (movF l k 0) = textF l k ++ ((ob l k).code ++ [0]) := by
  unfold rowL
  congr 2
  apply List.ext_getElem?
  intro j
  by_cases hj : j < (ob l k).code.length
  · simp [hj, movF, nth, List.getD]
  · simp [hj]
theorem rowL_mov {l : List Ob} {k j : Nat} (hj : j < (ob l k).code.length) : (rowL l k (movF l k j)).set (bsF l k + j) (movV (nth (ob l k).code j) (bsF l k)) = rowL l k (movF l k (j + 1)) := by
  rw [rowL_set hj]
  refine rowL_congr fun i _ => ?_
  unfold movF
  by_cases e : i = j
  · subst e; simp
  · rw [if_neg e]
    by_cases h : i < j
    · rw [if_pos h, if_pos (by omega)]
    · rw [if_neg h, if_neg (by omega)]
theorem rowL_moved (l : List Ob) (k : Nat) : rowL l k (movF l k (ob l k).code.length) = rowL l k (relF l k 0) := by
  refine rowL_congr fun i hi => ?_
  unfold movF relF
  rw [if_pos hi, if_neg (by omega)]
theorem from_is {p : Int} : ∀ (l : List Rel) (k : Nat), 0 ≤ atFrom l p k → ∃ i : Nat, atFrom l p k = ((k + i : Nat) : Int) ∧ rAt l i = p
  | [], k, h => by simp [atFrom] at h
  | a :: l, k, h => by
    unfold atFrom at h ⊢
    split
    · rename_i hc
      exact ⟨0, by simp, by simpa [rAt] using hc⟩
    · rename_i hc
      rw [if_neg hc] at h
      obtain ⟨i, e, r⟩ := from_is l (k + 1) h
      exact ⟨i + 1, by rw [e]; omega, by simpa [rAt] using r⟩
theorem at_is {rs : List Rel} {p : Int} (h : 0 ≤ atR rs p) : rAt rs (atR rs p).toNat = p := by
  obtain ⟨i, e, r⟩ := from_is rs 0 h
  unfold atR
  rw [e]
  simpa using r
theorem rowL_rel {l : List Ob} {k r i : Nat} (hi : i < (ob l k).code.length) (h : atR (ob l k).rs i = r) : (rowL l k (relF l k r)).set (bsF l k + i) (wordF l k i) = rowL l k (relF l k (r + 1)) := by
  rw [rowL_set hi]
  refine rowL_congr fun j _ => ?_
  unfold relF
  by_cases e : j = i
  · subst e; rw [if_pos rfl, if_pos (by omega)]
  · rw [if_neg e]
    by_cases hj : 0 ≤ atR (ob l k).rs j ∧ atR (ob l k).rs j < r
    · rw [if_pos hj, if_pos (by omega)]
    · rw [if_neg hj]
      rw [if_neg]
      intro h2
      have e2 : atR (ob l k).rs j = r := by omega
      have a1 := at_is (rs := (ob l k).rs) (p := (j : Int)) (by omega)
      have a2 := at_is (rs := (ob l k).rs) (p := (i : Int)) (by omega)
      rw [e2] at a1
      rw [h] at a2
      omega
theorem word_mov {l : List Ob} {k i : Nat} (h : ¬ 0 ≤ atR (ob l k).rs i) : wordF l k i = movV (nth (ob l k).code i) (bsF l k) := by
  unfold wordF movV toF
  rw [if_neg h]
theorem rowL_end (l : List Ob) (k : Nat) : rowL l k (relF l k (ob l k).rs.length) = textF l (k + 1) := by
  rw [textF]
  unfold rowL codeF
  congr 2
  refine List.map_congr_left fun i _ => ?_
  unfold relF
  by_cases h : 0 ≤ atR (ob l k).rs i
  · have := atR_lt h
    rw [if_pos ⟨h, by omega⟩]
  · rw [if_neg (fun e => h e.1), word_mov h]
theorem movV_range {v : Int} {b : Nat} (h0 : 0 ≤ v) (h1 : v < 4294967296) : 0 ≤ movV v b ∧ movV v b < 4294967296 := by
  unfold movV
  split
  · exact aim_range _ _
  · exact ⟨h0, h1⟩
/-- What a relocation's word becomes. -/
theorem rel_word {l : List Ob} {k r x : Nat} {y : Int} (hR : Res l) (hF : farL l = none) (hk : k < l.length) (hr : r < (ob l k).rs.length) (hs : standS l k (rSym (ob l k).rs r).toNat = ((x : Int), y)) (hx : x < l.length) (hy0 : 0 ≤ y) (hy1 : y ≤ (ob l x).code.length) :
    aimV (movV (nth (ob l k).code (rAt (ob l k).rs r).toNat) (bsF l k)) ((bsF l x : Int) + y) = wordF l k (rAt (ob l k).rs r).toNat := by
  have hm := hR.may k hk
  obtain ⟨p0, p1, -, -, -, hT, ht⟩ := rel_parts.1 (hm.2.2.1 r hr)
  have ha : atR (ob l k).rs ((rAt (ob l k).rs r).toNat : Int) = r := by rw [show (((rAt (ob l k).rs r).toNat : Nat) : Int) = rAt (ob l k).rs r by omega]; exact may_at hm r hr
  have hl := far_len hF
  have b1 := bsF_end l hk
  have b2 := bsF_end l hx
  have e1 : movV (nth (ob l k).code (rAt (ob l k).rs r).toNat) (bsF l k) = aimV (nth (ob l k).code (rAt (ob l k).rs r).toNat) (bsF l k) := by
    unfold movV
    rw [if_pos hT, ht]
    simp
  rw [e1, aim_again hT (by omega) (by omega)]
  unfold wordF toF
  rw [if_pos hT, if_pos (by omega), ha]
  simp [hs]
theorem vU_set (zs : List Int) (p : Nat) (v : Int) : (vU zs).set p (.int .u32 v) = vU (zs.set p v) := by simp [vU, List.map_set]
/-- A row of which one place is written over. -/
theorem own_setAt {w : World} {base g n c p : Nat} {e : TypeId} {xs : List Value} (h : w.ownsRow base e 1 (.slice (some ⟨g, 0, none⟩) n c) n xs) (_hp : p < n) (u : Value) : (w.setCell ⟨g, p, none⟩ u).ownsRow base e 1 (.slice (some ⟨g, 0, none⟩) n c) n (xs.set p u) := by
  refine ⟨by rw [List.length_set]; exact h.1, ?_⟩
  rcases h.2 with ⟨hv, _⟩ | ⟨g', cap, cur, hv, hb, hg, h1, h2, h3, h4⟩
  · cases hv
  · cases hv
    refine .inr ⟨g, c, cur.setIfInBounds p u, rfl, hb, ?_, h1, h2, by rw [Array.size_setIfInBounds]; exact h3, ?_⟩
    · simp [World.setCell, Array.getElem?_modify, hg]
    · rw [Array.toList_setIfInBounds, List.take_set, h4]
theorem infoU : ∃ i, Tryz.prog.info? 78 = some i ∧ i.zero = some (.int .u32 0) ∧ i.size = 1 ∧ i.bytes = 4 :=
  ⟨(Tryz.prog.info? 78).get (by kernel_rfl), by kernel_rfl, by kernel_rfl, by kernel_rfl, by kernel_rfl⟩
theorem append_mix {P : Program} {t u e ty : TypeId} {b : Option Addr} {n c : Nat} {x : Value} {w : World} (ht : P.underlying t = some (.slice e)) (hu : P.underlying u = some (.slice e)) : (Builtin.append_ #[t, u] ty #[.slice b n c, x]).run P w = (Builtin.append_ #[t, t] ty #[.slice b n c, x]).run P w := by
  unfold Builtin.append_
  simp [Sem.run_bind, underlying, ht, hu, Result.andThen]
theorem append_zero {P : Program} {t u e ty : TypeId} {i : TypeInfo} {b : Option Addr} {n c c2 : Nat} {w : World} (ht : P.underlying t = some (.slice e)) (hu : P.underlying u = some (.slice e)) (hi : P.info? e = some i) (hn : n ≤ c) : (Builtin.append_ #[t, u] ty #[.slice b n c, .slice none 0 c2]).run P w = .ok (.slice b n c) w := by
  unfold Builtin.append_
  cases b <;> simp [Sem.run_bind, underlying, ht, hu, hi, Result.andThen, hn, sizeOf, typeInfo, Builtin.lenOf, Builtin.firstCells, storeCells]

end Go.Proofs.YthpkekpojhmaaaaGreatDoor

namespace Go.Proofs.YthpkekpojhmaaaaGreatDoor
open Go.RowKit

theorem rows_in {l0 n : Nat} {P : Program} {row : String} {args : Array Value} {w : World} {R : Value → World → Prop} (h : Rows P row args w R) : RowsIn (Fence.wide.inRound l0) n P row args w R := by
  intro c cs _
  obtain ⟨v, w', r, s⟩ := h c cs
  exact ⟨v, w', r, stepsIn_wide.2 s⟩
theorem op_in {l0 n : Nat} {P : Program} {ops : Array Oper} {Q : Exit → Act → World → Prop} {i : Nat} {K K' : Act → World → Prop} {a : Act} {w : World} (hd : ∀ (i : Nat) (o : Oper) (c : Call), ops[i]? = some o → o.op ≠ .defer c) (hL : ¬ LetsOut Q) (hK : ∀ a w, K a w → K' a w) (h : wpOp P ops Q i K a w) : wpOpIn (Fence.wide.inRound l0) n P ops Q i K' a w := by
  unfold wpOp at h
  unfold wpOpIn
  cases ho : ops[i]? with
  | none => rw [ho] at h; exact hK _ _ h
  | some o =>
    rw [ho] at h
    simp only at h ⊢
    by_cases hw : Region.wanted o (yielded ops a.tmps) = true
    · rw [if_pos hw] at h ⊢
      rcases h with h | h
      · refine ⟨fun _ _ => trivial, ?_⟩
        rw [Oper.semAt_plain _ _ _ (fun c => hd i o c ho)]
        unfold Oper.wp at h
        generalize (execOp a.eval o).run P w = r at h ⊢
        cases r with
        | ok x w' =>
          cases x with
          | value v => exact hK _ _ h
          | skip => exact hK _ _ h
          | defer d => exact hK _ _ h
          | enter f args =>
            refine ⟨(fun h => by cases h), ?_⟩
            refine (callsIn_wide.2 h).mono fun e w'' he => ?_
            cases e with
            | returned v => exact hK _ _ he
            | panicked c => exact he
            | outgrown => exact he
          | row row args =>
            refine ⟨(fun h => by cases h), ?_⟩
            exact (rows_in h).mono fun v w'' he => hK _ _ he
          | _ => exact h.elim
        | halt x w' =>
          cases x with
          | panic v => exact h
          | _ => exact h.elim
      · exact absurd h.2 hL
    · rw [if_neg hw] at h ⊢
      exact ⟨fun _ _ => trivial, hK _ _ h⟩
theorem any_in {l0 n : Nat} {P : Program} {md : Region.Mode} {ops : Array Oper} {Q : Exit → Act → World → Prop} (hd : ∀ (i : Nat) (o : Oper) (c : Call), ops[i]? = some o → o.op ≠ .defer c) (hL : ¬ LetsOut Q) : ∀ (fuel : Nat) (listed : Array Bool) (a : Act) (w : World), wpAny P md ops Q fuel listed a w → wpAnyIn (Fence.wide.inRound l0) n P md ops Q fuel listed a w
  | 0, _, _, _, h => h
  | fuel + 1, _, _, _, h => ⟨h.1, fun i hi => op_in hd hL (fun a w h2 => any_in hd hL fuel _ a w h2) (h.2 i hi)⟩
/-- The beginning: S is shown of the world behind the draw. -/
theorem round_any {l0 n : Nat} {P : Program} {id : Nat} {ops : Array Oper} {Q : Exit → Act → World → Prop} {S : World → Prop} {a : Act} {w : World} (hm : P.follows .mixedOrders = true) (hd : ∀ (i : Nat) (o : Oper) (c : Call), ops[i]? = some o → o.op ≠ .defer c) (hL : ¬ LetsOut Q) (hS : S w.drew)
    (h : S w.drew → wpAnyH P .any ops Q S ops.size (Array.replicate ops.size false) a w.drew) : (Code.region id ops true).wpIn (Fence.wide.inRound l0) n P Q a w :=
  wpIn_region_any hm (any_in hd hL _ _ _ _ (wpAny_of_held _ _ _ _ (h hS)))

/-- No operation defers. -/
def noDefer (ops : Array Oper) : Bool := ops.toList.all fun o => match o.op with | .defer _ => false | _ => true
theorem noDefer_spec {ops : Array Oper} (h : noDefer ops = true) (i : Nat) (o : Oper) (c : Call) (ho : ops[i]? = some o) : o.op ≠ .defer c := fun e => by
  unfold noDefer at h
  rw [List.all_eq_true] at h
  have := h o (by
    obtain ⟨hi, hv⟩ := Array.getElem?_eq_some_iff.1 ho
    rw [← hv]
    simp)
  rw [e] at this
  cases this
theorem cell_set_ne {X : World} {g p : Nat} {u v : Value} {a : Addr} (h : X.cell? a = some v) (hne : a.block ≠ g) : (X.setCell ⟨g, p, none⟩ u).cell? a = some v := by
  rw [World.cell?_of_block (Below.heap_setCell _ _ _ _ hne)]; exact h

end Go.Proofs.YthpkekpojhmaaaaGreatDoor

namespace Go.Proofs.YthpkekpojhmaaaaGreatDoor
open Go.RowKit

/-- A list of lists of places in memory. -/
def RowsAt (w : World) (A : Option Addr) (rows : List (List Rel)) : Prop := ∀ i, i < rows.length → ∃ (a : Addr) (R : Option Addr) (k : Nat), A = some a ∧ w.cell? (a.add i) = some (.slice R (rowN rows i).length k) ∧ RelsAt w R (rowN rows i)
theorem RowsAt.keep {w w1 : World} {A : Option Addr} {rows : List (List Rel)} (h : RowsAt w A rows) (hb : Below w.heap.size w w1) : RowsAt w1 A rows := fun i hi => by
  obtain ⟨a, R, k, e, c, r⟩ := h i hi
  exact ⟨a, R, k, e, lkeep hb c, r.keep hb⟩
theorem addzS (g i : Nat) : (⟨g, 0, none⟩ : Addr).add i = ⟨g, i, none⟩ := by
  unfold Addr.add
  by_cases h : i = 0 <;> simp [h]
/-- The blocks of a list of lists. -/
theorem RowsD.blk {w : World} {base c : Nat} {TS TD : TypeId} {A : Option Addr} {n : Nat} {vs : List Value} {rows : List (List Rel)} (h : RowsD w base TS TD (.slice A n c) vs rows) (i : Nat) (hi : i < rows.length) : ∃ g, A = some ⟨g, 0, none⟩ ∧ base ≤ g ∧ g < w.heap.size ∧ w.cell? ⟨g, i, none⟩ = some (vn vs i) ∧ ∃ cur, w.heap[g]? = some (.cells cur TS (0, 0)) := by
  have hl := h.len
  have hv : vs[i]? = some (vn vs i) := by
    unfold vn
    rw [List.getElem?_eq_getElem (by omega), List.getD_eq_getElem?_getD, List.getElem?_eq_getElem (by omega)]
    rfl
  rcases h.bag.2 with ⟨_, h0⟩ | ⟨j, cap, cur, e, hb, hg, hc, _⟩
  · omega
  · cases e
    refine ⟨j, rfl, hb, (Array.getElem?_eq_some_iff.1 hg).1, ?_, cur, hg⟩
    have := h.bag.cells rfl _ _ hv
    rwa [addzS] at this
theorem drow_blk {w : World} {base : Nat} {e : TypeId} {v : Value} {l : List Rel} (h : w.ownsRow base e 2 v l.length (dNews l)) (hp : 0 < l.length) : ∃ g c cur, v = .slice (some ⟨g, 0, none⟩) l.length c ∧ base ≤ g ∧ w.heap[g]? = some (.cells cur e (0, 0)) ∧ l.length * 2 ≤ cur.size ∧ ∀ j, j < l.length → w.cell? ⟨g, j * 2, none⟩ = some (.int .i64 (rAt l j)) ∧ w.cell? ⟨g, j * 2 + 1, none⟩ = some (.int .i64 (rSym l j)) := by
  have h' := h
  rcases h.2 with ⟨_, h0⟩ | ⟨g, cap, cur, rfl, hb, hg, hc, _, hs, _⟩
  · omega
  · refine ⟨g, cap, cur, rfl, hb, hg, by omega, fun j hj => ?_⟩
    obtain ⟨x, y⟩ := dNews_get hj
    have a := h'.cells rfl _ _ x
    have b := h'.cells rfl _ _ y
    rw [addzS] at a b
    exact ⟨a, b⟩
/-- Few and short enough. -/
def FewR (rows : List (List Rel)) : Prop := rows.length ≤ 64 ∧ ∀ i, i < rows.length → (rowN rows i).length ≤ 1048576

end Go.Proofs.YthpkekpojhmaaaaGreatDoor

namespace Go.Proofs.YthpkekpojhmaaaaGreatDoor
open Go.RowKit

attribute [local go_sem] Oper.semAt_some

theorem rows_at {w : World} {base c n : Nat} {TS TD : TypeId} {A : Option Addr} {vs : List Value} {rows : List (List Rel)} (h : RowsD w base TS TD (.slice A n c) vs rows) : RowsAt w A rows := fun i hi => by
  obtain ⟨g, rfl, -, -, hc, -⟩ := h.blk i hi
  obtain ⟨R, k, e, -⟩ := own_any (h.row i hi)
  refine ⟨_, R, k, rfl, by rw [addzS, hc, e], ?_⟩
  have hr := h.row i hi
  rw [e] at hr
  intro j hj
  rcases hr.2 with ⟨_, h0⟩ | ⟨g2, cap, cur, e2, _⟩
  · omega
  · cases e2
    obtain ⟨x, y⟩ := dNews_get hj
    exact ⟨_, rfl, hr.cells rfl _ _ x, by rw [Deep.add_add]; exact hr.cells rfl _ _ y⟩
theorem rowT_at {l : List Ob} {k n j : Nat} (h : j < n) : rAt (rowT l k n) j = (standS l k j).1 ∧ rSym (rowT l k n) j = (standS l k j).2 := by simp [rAt, rSym, rowT, h]
/-- Its own cells, between two rounds. -/
structure JoinI (l : List Ob) (A : Option Addr) (ca : Nat) (B : Option Addr) (cB : Nat) (D : Option Addr) (cD : Nat) (w : World) (k : Nat) (W : World) : Prop where
  b0 : Boxed W (w.heap.size) 22 (.slice A l.length ca)
  b1 : Boxed W (w.heap.size + 1) 33 (.slice B l.length cB)
  b2 : Boxed W (w.heap.size + 1 + 1) 65 (.slice D l.length cD)
  row : ∃ (O : Option Addr) (c : Nat), Boxed W (w.heap.size + 1 + 1 + 1) 168 (.slice O (bsF l k) c) ∧ W.ownsRow w.heap.size 78 1 (.slice O (bsF l k) c) (bsF l k) (vU (textF l k))
  low : Below w.heap.size w W
theorem JoinI.turn {l : List Ob} {A : Option Addr} {ca : Nat} {B : Option Addr} {cB : Nat} {D : Option Addr} {cD : Nat} {w : World} {k n : Nat} {W W' : World} (h : JoinI l A ca B cB D cD w k W) (t : Turn n W W') (hn : w.heap.size ≤ n) : JoinI l A ca B cB D cD w k W' := by
  obtain ⟨O, c, r1, r2⟩ := h.row
  exact ⟨t.box h.b0 (by decide), t.box h.b1 (by decide), t.box h.b2 (by decide), ⟨O, c, t.box r1 (by decide), t.row r2 (by decide)⟩, t.below h.low hn⟩
/-- While an object's words are patched: the text's row, the object's copy, what must stay. -/
structure JoinP (l : List Ob) (A : Option Addr) (ca : Nat) (B : Option Addr) (cB : Nat) (D : Option Addr) (cD : Nat) (q : Nat → Pl) (w : World) (n1 k g c Bo : Nat) (W0 : World) (f : Nat → Int) (W : World) : Prop where
  b0 : Boxed W (w.heap.size) 22 (.slice A l.length ca)
  b1 : Boxed W (w.heap.size + 1) 33 (.slice B l.length cB)
  b2 : Boxed W (w.heap.size + 1 + 1) 65 (.slice D l.length cD)
  b3 : Boxed W (w.heap.size + 1 + 1 + 1) 168 (.slice (some ⟨g, 0, none⟩) (bsF l (k + 1)) c)
  row : W.ownsRow w.heap.size 78 1 (.slice (some ⟨g, 0, none⟩) (bsF l (k + 1)) c) (bsF l (k + 1)) (vU (rowL l k f))
  low : Below w.heap.size w W
  kept : Kept w.heap.size n1 W0 W
  copy : CopyAt W Bo (q k) (ob l k)
theorem JoinP.below {l : List Ob} {A : Option Addr} {ca : Nat} {B : Option Addr} {cB : Nat} {D : Option Addr} {cD : Nat} {q : Nat → Pl} {w : World} {n1 k g c Bo : Nat} {W0 : World} {f : Nat → Int} {W W' : World} (h : JoinP l A ca B cB D cD q w n1 k g c Bo W0 f W) (hb : Below W.heap.size W W') (hs : w.heap.size ≤ W.heap.size) : JoinP l A ca B cB D cD q w n1 k g c Bo W0 f W' :=
  ⟨(hb.block _ h.b0.lt).trans h.b0, (hb.block _ h.b1.lt).trans h.b1, (hb.block _ h.b2.lt).trans h.b2, (hb.block _ h.b3.lt).trans h.b3, own_keep h.row hb, lb_trans h.low hb, h.kept.trans (Kept.of hb hs), (hb.block _ (Array.getElem?_eq_some_iff.1 h.copy).1).trans h.copy⟩
/-- One place is written over. -/
theorem JoinP.patch {l : List Ob} {A : Option Addr} {ca : Nat} {B : Option Addr} {cB : Nat} {D : Option Addr} {cD : Nat} {q : Nat → Pl} {w : World} {n1 k g c Bo p : Nat} {W0 : World} {f f' : Nat → Int} {v : Int} {W : World} (h : JoinP l A ca B cB D cD q w n1 k g c Bo W0 f W) (hp : p < bsF l (k + 1)) (hf : (rowL l k f).set p v = rowL l k f') : JoinP l A ca B cB D cD q w n1 k g c Bo W0 f' (W.setCell ⟨g, p, none⟩ (.int .u32 v)) := by
  obtain ⟨cur, hc⟩ := own_block h.row rfl
  have hg := grown_cell W g p (.int .u32 v)
  have hgb : w.heap.size ≤ g := (h.row.lt g rfl).1
  have ne : ∀ {B : Nat} {t : TypeId} {u : Value}, Boxed W B t u → t ≠ 78 → some B ≠ some g := fun hb ht e => by
    cases e
    rw [show W.heap[_]? = _ from hb] at hc
    cases hc
    exact ht rfl
  refine ⟨h.b0.kept hg (ne h.b0 (by decide)), h.b1.kept hg (ne h.b1 (by decide)), h.b2.kept hg (ne h.b2 (by decide)), h.b3.kept hg (ne h.b3 (by decide)), ?_, h.low.setCell hgb _, h.kept.trans (Kept.grown hg hc (by decide) hgb), ?_⟩
  · rw [← hf, ← vU_set]
    exact own_setAt h.row hp _
  · refine (hg.block Bo (Array.getElem?_eq_some_iff.1 h.copy).1 (fun e => ?_)).trans h.copy
    cases e
    rw [show W.heap[_]? = _ from h.copy] at hc
    cases hc
theorem JoinP.cell {l : List Ob} {A : Option Addr} {ca : Nat} {B : Option Addr} {cB : Nat} {D : Option Addr} {cD : Nat} {q : Nat → Pl} {w : World} {n1 k g c Bo i : Nat} {W0 : World} {f : Nat → Int} {W : World} (h : JoinP l A ca B cB D cD q w n1 k g c Bo W0 f W) (hi : i < (ob l k).code.length) : W.cell? ⟨g, bsF l k + i, none⟩ = some (.int .u32 (f i)) ∧ W.frozen? ⟨g, bsF l k + i, none⟩ = false := by
  obtain ⟨cur, hc⟩ := own_block h.row rfl
  have e : nth (rowL l k f) (bsF l k + i) = f i := rowL_nth hi
  have hl : bsF l k + i < (rowL l k f).length := by rw [rowL_len, bsF]; omega
  have := h.row.cells rfl (bsF l k + i) (.int .u32 (f i)) (by rw [← e]; simp [vU, nth, List.getD, hl])
  rw [addzS] at this
  exact ⟨this, by simp [World.frozen?, hc]⟩

end Go.Proofs.YthpkekpojhmaaaaGreatDoor
