/-
  The rows of the text while it is made. A region of a round that draws its order, walked as one of a function. same: two answers that tell the same. What join holds between two rounds. The program's text. A world in which some blocks have been written over; no Go in sight. The names that were learnt, as plain mathematics; no Go in sight. A map of meanings in memory: what it knows of each name. learn: a name is kept. first of the document: the first symbol of a kind and name below a place. Find: what a name stands for. check of the document: what is asked of the objects. Find of the document: what a name stands for. names of the document: what is asked of the symbols. learnAll: the names of all symbols. The finders: how a symbol of each kind is found.
-/
import Derived.Test.YthpkekpojhmaaaaGreatDoorProg
import Derived.WalkKit
import Derived.WalkSpells
import Derived.WalkLawsBesides
import Derived.RowKit3
import Derived.Below
import Derived.Deep.QuietTactic
import Derived.BigQuiet
import Derived.WalkSmall
import Derived.Laws.Rows
import Derived.Test.YthpkekpojhmaaaaGreatDoorP07
import Derived.RangeFuncCalls
import Derived.Shelf.Abstract
import Derived.Shelf.RegionOpen
import Derived.OwnWalkIn
import Derived.TacticsInMore
import Derived.OrdersHeld
import Derived.OrdersIn
import Derived.Deep.RegionHeld3
import Derived.Test.YthpkekpojhmaaaaGreatDoorP06
import Derived.RangeFuncNested
import Derived.RangeFuncBound
import Derived.RangeFuncLeaves
import Derived.LoopNIn
import Derived.LoopIn
import Derived.Maps.AppendAt
import Derived.Sort.CutIn
import Derived.OneCell
import Derived.Test.YthpkekpojhmaaaaGreatDoorP05
import Derived.Maps.OwnSet
import Derived.Maps.Own
import Derived.Maps.OwnOps
import Derived.WalkMore
import Derived.Test.YthpkekpojhmaaaaGreatDoorP04
import Derived.Test.YthpkekpojhmaaaaGreatDoorP03
namespace Go.Proofs.YthpkekpojhmaaaaGreatDoor
open Go.RowKit

/-- The text while an object's words are patched. -/
def rowL (l : List Ob) (k : Nat) (f : Nat → Int) : List Int := textF l k ++ ((List.range (ob l k).code.length).map f ++ [0])
def movF (l : List Ob) (k j i : Nat) : Int := if i < j then movV (nth (ob l k).code i) (bsF l k) else nth (ob l k).code i
def relF (l : List Ob) (k r i : Nat) : Int := if 0 ≤ atR (ob l k).rs i ∧ atR (ob l k).rs i < r then wordF l k i else movV (nth (ob l k).code i) (bsF l k)
theorem rowL_len (l : List Ob) (k : Nat) (f : Nat → Int) : (rowL l k f).length = bsF l (k + 1) := by
  unfold rowL
  rw [List.length_append, textF_len, bsF]
  simp
  omega
theorem rowL_nth {l : List Ob} {k i : Nat} {f : Nat → Int} (hi : i < (ob l k).code.length) : nth (rowL l k f) (bsF l k + i) = f i := by
  unfold rowL
  rw [← textF_len l k, nth_right, nth_left (by simpa using hi)]
  simp [nth, List.getD, hi]
theorem rowL_congr {l : List Ob} {k : Nat} {f g : Nat → Int} (h : ∀ i, i < (ob l k).code.length → f i = g i) : rowL l k f = rowL l k g := by
  unfold rowL
  congr 2
  exact List.map_congr_left fun x hx => h x (by simpa using hx)
theorem rowL_set {l : List Ob} {k i : Nat} {f : Nat → Int} {v : Int} (hi : i < (ob l k).code.length) : (rowL l k f).set (bsF l k + i) v = rowL l k (fun j => if j = i then v else f j) := by
  unfold rowL
  rw [List.set_append, if_neg (by rw [textF_len]; omega), textF_len, Nat.add_sub_cancel_left, List.set_append, if_pos (by simpa using hi)]
  congr 2
  apply List.ext_getElem?
  intro j
  rw [List.getElem?_set]
  by_cases hj : j < (ob l k).code.length
  · by_cases e : i = j
    · subst e; simp [hi]
    · simp [hj, e]
      intro h
      exact absurd h.symm e
  · by_cases e : i = j
    · omega
    · simp [hj, e]
theorem rowL_start (l : List Ob) (k : Nat) : rowL l k (movF l k 0) = textF l k ++ ((ob l k).code ++ [0]) := by
  unfold rowL
  congr 2
  apply List.ext_getElem?
  intro j
  by_cases hj : j < (ob l k).code.length
  · simp [hj, movF, nth, List.getD]
  · simp [hj]
theorem rowL_mov {l : List Ob} {k j : Nat} (hj : j < (ob l k).code.length) : (rowL l k (movF l k j)).set (bsF l k + j) (movV (nth (ob l k).code j) (bsF l k)) = rowL l k (movF l k (j + 1)) := by
  rw [rowL_set hj]
  refine rowL_congr fun i _ => ?_
  unfold movF
  by_cases e : i = j
  · subst e; simp
  · rw [if_neg e]
    by_cases h : i < j
    · rw [if_pos h, if_pos (by omega)]
    · rw [if_neg h, if_neg (by omega)]
theorem rowL_moved (l : List Ob) (k : Nat) : rowL l k (movF l k (ob l k).code.length) = rowL l k (relF l k 0) := by
  refine rowL_congr fun i hi => ?_
  unfold movF relF
  rw [if_pos hi, if_neg (by omega)]
theorem from_is {p : Int} : ∀ (l : List Rel) (k : Nat), 0 ≤ atFrom l p k → ∃ i : Nat, atFrom l p k = ((k + i : Nat) : Int) ∧ rAt l i = p
  | [], k, h => by simp [atFrom] at h
  | a :: l, k, h => by
    unfold atFrom at h ⊢
    split
    · rename_i hc
      exact ⟨0, by simp, by simpa [rAt] using hc⟩
    · rename_i hc
      rw [if_neg hc] at h
      obtain ⟨i, e, r⟩ := from_is l (k + 1) h
      exact ⟨i + 1, by rw [e]; omega, by simpa [rAt] using r⟩
theorem at_is {rs : List Rel} {p : Int} (h : 0 ≤ atR rs p) : rAt rs (atR rs p).toNat = p := by
  obtain ⟨i, e, r⟩ := from_is rs 0 h
  unfold atR
  rw [e]
  simpa using r
theorem rowL_rel {l : List Ob} {k r i : Nat} (hi : i < (ob l k).code.length) (h : atR (ob l k).rs i = r) : (rowL l k (relF l k r)).set (bsF l k + i) (wordF l k i) = rowL l k (relF l k (r + 1)) := by
  rw [rowL_set hi]
  refine rowL_congr fun j _ => ?_
  unfold relF
  by_cases e : j = i
  · subst e; rw [if_pos rfl, if_pos (by omega)]
  · rw [if_neg e]
    by_cases hj : 0 ≤ atR (ob l k).rs j ∧ atR (ob l k).rs j < r
    · rw [if_pos hj, if_pos (by omega)]
    · rw [if_neg hj]
      rw [if_neg]
      intro h2
      have e2 : atR (ob l k).rs j = r := by omega
      have a1 := at_is (rs := (ob l k).rs) (p := (j : Int)) (by omega)
      have a2 := at_is (rs := (ob l k).rs) (p := (i : Int)) (by omega)
      rw [e2] at a1
      rw [h] at a2
      omega
theorem word_mov {l : List Ob} {k i : Nat} (h : ¬ 0 ≤ atR (ob l k).rs i) : wordF l k i = movV (nth (ob l k).code i) (bsF l k) := by
  unfold wordF movV toF
  rw [if_neg h]
theorem rowL_end (l : List Ob) (k : Nat) : rowL l k (relF l k (ob l k).rs.length) = textF l (k + 1) := by
  rw [textF]
  unfold rowL codeF
  congr 2
  refine List.map_congr_left fun i _ => ?_
  unfold relF
  by_cases h : 0 ≤ atR (ob l k).rs i
  · have := atR_lt h
    rw [if_pos ⟨h, by omega⟩]
  · rw [if_neg (fun e => h e.1), word_mov h]
theorem movV_range {v : Int} {b : Nat} (h0 : 0 ≤ v) (h1 : v < 4294967296) : 0 ≤ movV v b ∧ movV v b < 4294967296 := by
  unfold movV
  split
  · exact aim_range _ _
  · exact ⟨h0, h1⟩
/-- What a relocation's word becomes. -/
theorem rel_word {l : List Ob} {k r x : Nat} {y : Int} (hR : Res l) (hF : farL l = none) (hk : k < l.length) (hr : r < (ob l k).rs.length) (hs : standS l k (rSym (ob l k).rs r).toNat = ((x : Int), y)) (hx : x < l.length) (hy0 : 0 ≤ y) (hy1 : y ≤ (ob l x).code.length) :
    aimV (movV (nth (ob l k).code (rAt (ob l k).rs r).toNat) (bsF l k)) ((bsF l x : Int) + y) = wordF l k (rAt (ob l k).rs r).toNat := by
  have hm := hR.may k hk
  obtain ⟨p0, p1, -, -, -, hT, ht⟩ := rel_parts.1 (hm.2.2.1 r hr)
  have ha : atR (ob l k).rs ((rAt (ob l k).rs r).toNat : Int) = r := by rw [show (((rAt (ob l k).rs r).toNat : Nat) : Int) = rAt (ob l k).rs r by omega]; exact may_at hm r hr
  have hl := far_len hF
  have b1 := bsF_end l hk
  have b2 := bsF_end l hx
  have e1 : movV (nth (ob l k).code (rAt (ob l k).rs r).toNat) (bsF l k) = aimV (nth (ob l k).code (rAt (ob l k).rs r).toNat) (bsF l k) := by
    unfold movV
    rw [if_pos hT, ht]
    simp
  rw [e1, aim_again hT (by omega) (by omega)]
  unfold wordF toF
  rw [if_pos hT, if_pos (by omega), ha]
  simp [hs]
theorem vU_set (zs : List Int) (p : Nat) (v : Int) : (vU zs).set p (.int .u32 v) = vU (zs.set p v) := by simp [vU, List.map_set]
/-- A row of which one place is written over. -/
theorem own_setAt {w : World} {base g n c p : Nat} {e : TypeId} {xs : List Value} (h : w.ownsRow base e 1 (.slice (some ⟨g, 0, none⟩) n c) n xs) (_hp : p < n) (u : Value) : (w.setCell ⟨g, p, none⟩ u).ownsRow base e 1 (.slice (some ⟨g, 0, none⟩) n c) n (xs.set p u) := by
  refine ⟨by rw [List.length_set]; exact h.1, ?_⟩
  rcases h.2 with ⟨hv, _⟩ | ⟨g', cap, cur, hv, hb, hg, h1, h2, h3, h4⟩
  · cases hv
  · cases hv
    refine .inr ⟨g, c, cur.setIfInBounds p u, rfl, hb, ?_, h1, h2, by rw [Array.size_setIfInBounds]; exact h3, ?_⟩
    · simp [World.setCell, Array.getElem?_modify, hg]
    · rw [Array.toList_setIfInBounds, List.take_set, h4]
theorem infoU : ∃ i, Tryz.prog.info? 78 = some i ∧ i.zero = some (.int .u32 0) ∧ i.size = 1 ∧ i.bytes = 4 :=
  ⟨(Tryz.prog.info? 78).get (by kernel_rfl), by kernel_rfl, by kernel_rfl, by kernel_rfl, by kernel_rfl⟩
theorem append_mix {P : Program} {t u e ty : TypeId} {b : Option Addr} {n c : Nat} {x : Value} {w : World} (ht : P.underlying t = some (.slice e)) (hu : P.underlying u = some (.slice e)) : (Builtin.append_ #[t, u] ty #[.slice b n c, x]).run P w = (Builtin.append_ #[t, t] ty #[.slice b n c, x]).run P w := by
  unfold Builtin.append_
  simp [Sem.run_bind, underlying, ht, hu, Result.andThen]
theorem append_zero {P : Program} {t u e ty : TypeId} {i : TypeInfo} {b : Option Addr} {n c c2 : Nat} {w : World} (ht : P.underlying t = some (.slice e)) (hu : P.underlying u = some (.slice e)) (hi : P.info? e = some i) (hn : n ≤ c) : (Builtin.append_ #[t, u] ty #[.slice b n c, .slice none 0 c2]).run P w = .ok (.slice b n c) w := by
  unfold Builtin.append_
  cases b <;> simp [Sem.run_bind, underlying, ht, hu, hi, Result.andThen, hn, sizeOf, typeInfo, Builtin.lenOf, Builtin.firstCells, storeCells]

end Go.Proofs.YthpkekpojhmaaaaGreatDoor

namespace Go.Proofs.YthpkekpojhmaaaaGreatDoor
open Go.RowKit

theorem rows_in {l0 n : Nat} {P : Program} {row : String} {args : Array Value} {w : World} {R : Value → World → Prop} (h : Rows P row args w R) : RowsIn (Fence.wide.inRound l0) n P row args w R := by
  intro c cs _
  obtain ⟨v, w', r, s⟩ := h c cs
  exact ⟨v, w', r, stepsIn_wide.2 s⟩
theorem op_in {l0 n : Nat} {P : Program} {ops : Array Oper} {Q : Exit → Act → World → Prop} {i : Nat} {K K' : Act → World → Prop} {a : Act} {w : World} (hd : ∀ (i : Nat) (o : Oper) (c : Call), ops[i]? = some o → o.op ≠ .defer c) (hL : ¬ LetsOut Q) (hK : ∀ a w, K a w → K' a w) (h : wpOp P ops Q i K a w) : wpOpIn (Fence.wide.inRound l0) n P ops Q i K' a w := by
  unfold wpOp at h
  unfold wpOpIn
  cases ho : ops[i]? with
  | none => rw [ho] at h; exact hK _ _ h
  | some o =>
    rw [ho] at h
    simp only at h ⊢
    by_cases hw : Region.wanted o (yielded ops a.tmps) = true
    · rw [if_pos hw] at h ⊢
      rcases h with h | h
      · refine ⟨fun _ _ => trivial, ?_⟩
        rw [Oper.semAt_plain _ _ _ (fun c => hd i o c ho)]
        unfold Oper.wp at h
        generalize (execOp a.eval o).run P w = r at h ⊢
        cases r with
        | ok x w' =>
          cases x with
          | value v => exact hK _ _ h
          | skip => exact hK _ _ h
          | defer d => exact hK _ _ h
          | enter f args =>
            refine ⟨(fun h => by cases h), ?_⟩
            refine (callsIn_wide.2 h).mono fun e w'' he => ?_
            cases e with
            | returned v => exact hK _ _ he
            | panicked c => exact he
            | outgrown => exact he
          | row row args =>
            refine ⟨(fun h => by cases h), ?_⟩
            exact (rows_in h).mono fun v w'' he => hK _ _ he
          | _ => exact h.elim
        | halt x w' =>
          cases x with
          | panic v => exact h
          | _ => exact h.elim
      · exact absurd h.2 hL
    · rw [if_neg hw] at h ⊢
      exact ⟨fun _ _ => trivial, hK _ _ h⟩
theorem any_in {l0 n : Nat} {P : Program} {md : Region.Mode} {ops : Array Oper} {Q : Exit → Act → World → Prop} (hd : ∀ (i : Nat) (o : Oper) (c : Call), ops[i]? = some o → o.op ≠ .defer c) (hL : ¬ LetsOut Q) : ∀ (fuel : Nat) (listed : Array Bool) (a : Act) (w : World), wpAny P md ops Q fuel listed a w → wpAnyIn (Fence.wide.inRound l0) n P md ops Q fuel listed a w
  | 0, _, _, _, h => h
  | fuel + 1, _, _, _, h => ⟨h.1, fun i hi => op_in hd hL (fun a w h2 => any_in hd hL fuel _ a w h2) (h.2 i hi)⟩
/-- The beginning: S is shown of the world behind the draw. -/
theorem round_any {l0 n : Nat} {P : Program} {id : Nat} {ops : Array Oper} {Q : Exit → Act → World → Prop} {S : World → Prop} {a : Act} {w : World} (hm : P.follows .mixedOrders = true) (hd : ∀ (i : Nat) (o : Oper) (c : Call), ops[i]? = some o → o.op ≠ .defer c) (hL : ¬ LetsOut Q) (hS : S w.drew)
    (h : S w.drew → wpAnyH P .any ops Q S ops.size (Array.replicate ops.size false) a w.drew) : (Code.region id ops true).wpIn (Fence.wide.inRound l0) n P Q a w :=
  wpIn_region_any hm (any_in hd hL _ _ _ _ (wpAny_of_held _ _ _ _ (h hS)))

/-- No operation defers. -/
def noDefer (ops : Array Oper) : Bool := ops.toList.all fun o => match o.op with | .defer _ => false | _ => true
theorem noDefer_spec {ops : Array Oper} (h : noDefer ops = true) (i : Nat) (o : Oper) (c : Call) (ho : ops[i]? = some o) : o.op ≠ .defer c := fun e => by
  unfold noDefer at h
  rw [List.all_eq_true] at h
  have := h o (by
    obtain ⟨hi, hv⟩ := Array.getElem?_eq_some_iff.1 ho
    rw [← hv]
    simp)
  rw [e] at this
  cases this
theorem cell_set_ne {X : World} {g p : Nat} {u v : Value} {a : Addr} (h : X.cell? a = some v) (hne : a.block ≠ g) : (X.setCell ⟨g, p, none⟩ u).cell? a = some v := by
  rw [World.cell?_of_block (Below.heap_setCell _ _ _ _ hne)]; exact h

end Go.Proofs.YthpkekpojhmaaaaGreatDoor

namespace Go.Proofs.YthpkekpojhmaaaaGreatDoor
open Go.RowKit

/-- A list of lists of places in memory. -/
def RowsAt (w : World) (A : Option Addr) (rows : List (List Rel)) : Prop := ∀ i, i < rows.length → ∃ (a : Addr) (R : Option Addr) (k : Nat), A = some a ∧ w.cell? (a.add i) = some (.slice R (rowN rows i).length k) ∧ RelsAt w R (rowN rows i)
theorem RowsAt.keep {w w1 : World} {A : Option Addr} {rows : List (List Rel)} (h : RowsAt w A rows) (hb : Below w.heap.size w w1) : RowsAt w1 A rows := fun i hi => by
  obtain ⟨a, R, k, e, c, r⟩ := h i hi
  exact ⟨a, R, k, e, lkeep hb c, r.keep hb⟩
theorem addzS (g i : Nat) : (⟨g, 0, none⟩ : Addr).add i = ⟨g, i, none⟩ := by
  unfold Addr.add
  by_cases h : i = 0 <;> simp [h]
/-- The blocks of a list of lists. -/
theorem RowsD.blk {w : World} {base c : Nat} {TS TD : TypeId} {A : Option Addr} {n : Nat} {vs : List Value} {rows : List (List Rel)} (h : RowsD w base TS TD (.slice A n c) vs rows) (i : Nat) (hi : i < rows.length) : ∃ g, A = some ⟨g, 0, none⟩ ∧ base ≤ g ∧ g < w.heap.size ∧ w.cell? ⟨g, i, none⟩ = some (vn vs i) ∧ ∃ cur, w.heap[g]? = some (.cells cur TS (0, 0)) := by
  have hl := h.len
  have hv : vs[i]? = some (vn vs i) := by
    unfold vn
    rw [List.getElem?_eq_getElem (by omega), List.getD_eq_getElem?_getD, List.getElem?_eq_getElem (by omega)]
    rfl
  rcases h.bag.2 with ⟨_, h0⟩ | ⟨j, cap, cur, e, hb, hg, hc, _⟩
  · omega
  · cases e
    refine ⟨j, rfl, hb, (Array.getElem?_eq_some_iff.1 hg).1, ?_, cur, hg⟩
    have := h.bag.cells rfl _ _ hv
    rwa [addzS] at this
theorem drow_blk {w : World} {base : Nat} {e : TypeId} {v : Value} {l : List Rel} (h : w.ownsRow base e 2 v l.length (dNews l)) (hp : 0 < l.length) : ∃ g c cur, v = .slice (some ⟨g, 0, none⟩) l.length c ∧ base ≤ g ∧ w.heap[g]? = some (.cells cur e (0, 0)) ∧ l.length * 2 ≤ cur.size ∧ ∀ j, j < l.length → w.cell? ⟨g, j * 2, none⟩ = some (.int .i64 (rAt l j)) ∧ w.cell? ⟨g, j * 2 + 1, none⟩ = some (.int .i64 (rSym l j)) := by
  have h' := h
  rcases h.2 with ⟨_, h0⟩ | ⟨g, cap, cur, rfl, hb, hg, hc, _, hs, _⟩
  · omega
  · refine ⟨g, cap, cur, rfl, hb, hg, by omega, fun j hj => ?_⟩
    obtain ⟨x, y⟩ := dNews_get hj
    have a := h'.cells rfl _ _ x
    have b := h'.cells rfl _ _ y
    rw [addzS] at a b
    exact ⟨a, b⟩
/-- Few and short enough. -/
def FewR (rows : List (List Rel)) : Prop := rows.length ≤ 64 ∧ ∀ i, i < rows.length → (rowN rows i).length ≤ 1048576

end Go.Proofs.YthpkekpojhmaaaaGreatDoor

namespace Go.Proofs.YthpkekpojhmaaaaGreatDoor
open Go.RowKit

attribute [local go_sem] Oper.semAt_some

theorem rows_at {w : World} {base c n : Nat} {TS TD : TypeId} {A : Option Addr} {vs : List Value} {rows : List (List Rel)} (h : RowsD w base TS TD (.slice A n c) vs rows) : RowsAt w A rows := fun i hi => by
  obtain ⟨g, rfl, -, -, hc, -⟩ := h.blk i hi
  obtain ⟨R, k, e, -⟩ := own_any (h.row i hi)
  refine ⟨_, R, k, rfl, by rw [addzS, hc, e], ?_⟩
  have hr := h.row i hi
  rw [e] at hr
  intro j hj
  rcases hr.2 with ⟨_, h0⟩ | ⟨g2, cap, cur, e2, _⟩
  · omega
  · cases e2
    obtain ⟨x, y⟩ := dNews_get hj
    exact ⟨_, rfl, hr.cells rfl _ _ x, by rw [Deep.add_add]; exact hr.cells rfl _ _ y⟩
theorem rowT_at {l : List Ob} {k n j : Nat} (h : j < n) : rAt (rowT l k n) j = (standS l k j).1 ∧ rSym (rowT l k n) j = (standS l k j).2 := by simp [rAt, rSym, rowT, h]
/-- Its own cells, between two rounds. -/
structure JoinI (l : List Ob) (A : Option Addr) (ca : Nat) (B : Option Addr) (cB : Nat) (D : Option Addr) (cD : Nat) (w : World) (k : Nat) (W : World) : Prop where
  b0 : Boxed W (w.heap.size) 22 (.slice A l.length ca)
  b1 : Boxed W (w.heap.size + 1) 33 (.slice B l.length cB)
  b2 : Boxed W (w.heap.size + 1 + 1) 65 (.slice D l.length cD)
  row : ∃ (O : Option Addr) (c : Nat), Boxed W (w.heap.size + 1 + 1 + 1) 168 (.slice O (bsF l k) c) ∧ W.ownsRow w.heap.size 78 1 (.slice O (bsF l k) c) (bsF l k) (vU (textF l k))
  low : Below w.heap.size w W
theorem JoinI.turn {l : List Ob} {A : Option Addr} {ca : Nat} {B : Option Addr} {cB : Nat} {D : Option Addr} {cD : Nat} {w : World} {k n : Nat} {W W' : World} (h : JoinI l A ca B cB D cD w k W) (t : Turn n W W') (hn : w.heap.size ≤ n) : JoinI l A ca B cB D cD w k W' := by
  obtain ⟨O, c, r1, r2⟩ := h.row
  exact ⟨t.box h.b0 (by decide), t.box h.b1 (by decide), t.box h.b2 (by decide), ⟨O, c, t.box r1 (by decide), t.row r2 (by decide)⟩, t.below h.low hn⟩
/-- While an object's words are patched: the text's row, the object's copy, what must stay. -/
structure JoinP (l : List Ob) (A : Option Addr) (ca : Nat) (B : Option Addr) (cB : Nat) (D : Option Addr) (cD : Nat) (q : Nat → Pl) (w : World) (n1 k g c Bo : Nat) (W0 : World) (f : Nat → Int) (W : World) : Prop where
  b0 : Boxed W (w.heap.size) 22 (.slice A l.length ca)
  b1 : Boxed W (w.heap.size + 1) 33 (.slice B l.length cB)
  b2 : Boxed W (w.heap.size + 1 + 1) 65 (.slice D l.length cD)
  b3 : Boxed W (w.heap.size + 1 + 1 + 1) 168 (.slice (some ⟨g, 0, none⟩) (bsF l (k + 1)) c)
  row : W.ownsRow w.heap.size 78 1 (.slice (some ⟨g, 0, none⟩) (bsF l (k + 1)) c) (bsF l (k + 1)) (vU (rowL l k f))
  low : Below w.heap.size w W
  kept : Kept w.heap.size n1 W0 W
  copy : CopyAt W Bo (q k) (ob l k)
theorem JoinP.below {l : List Ob} {A : Option Addr} {ca : Nat} {B : Option Addr} {cB : Nat} {D : Option Addr} {cD : Nat} {q : Nat → Pl} {w : World} {n1 k g c Bo : Nat} {W0 : World} {f : Nat → Int} {W W' : World} (h : JoinP l A ca B cB D cD q w n1 k g c Bo W0 f W) (hb : Below W.heap.size W W') (hs : w.heap.size ≤ W.heap.size) : JoinP l A ca B cB D cD q w n1 k g c Bo W0 f W' :=
  ⟨(hb.block _ h.b0.lt).trans h.b0, (hb.block _ h.b1.lt).trans h.b1, (hb.block _ h.b2.lt).trans h.b2, (hb.block _ h.b3.lt).trans h.b3, own_keep h.row hb, lb_trans h.low hb, h.kept.trans (Kept.of hb hs), (hb.block _ (Array.getElem?_eq_some_iff.1 h.copy).1).trans h.copy⟩
/-- One place is written over. -/
theorem JoinP.patch {l : List Ob} {A : Option Addr} {ca : Nat} {B : Option Addr} {cB : Nat} {D : Option Addr} {cD : Nat} {q : Nat → Pl} {w : World} {n1 k g c Bo p : Nat} {W0 : World} {f f' : Nat → Int} {v : Int} {W : World} (h : JoinP l A ca B cB D cD q w n1 k g c Bo W0 f W) (hp : p < bsF l (k + 1)) (hf : (rowL l k f).set p v = rowL l k f') : JoinP l A ca B cB D cD q w n1 k g c Bo W0 f' (W.setCell ⟨g, p, none⟩ (.int .u32 v)) := by
  obtain ⟨cur, hc⟩ := own_block h.row rfl
  have hg := grown_cell W g p (.int .u32 v)
  have hgb : w.heap.size ≤ g := (h.row.lt g rfl).1
  have ne : ∀ {B : Nat} {t : TypeId} {u : Value}, Boxed W B t u → t ≠ 78 → some B ≠ some g := fun hb ht e => by
    cases e
    rw [show W.heap[_]? = _ from hb] at hc
    cases hc
    exact ht rfl
  refine ⟨h.b0.kept hg (ne h.b0 (by decide)), h.b1.kept hg (ne h.b1 (by decide)), h.b2.kept hg (ne h.b2 (by decide)), h.b3.kept hg (ne h.b3 (by decide)), ?_, h.low.setCell hgb _, h.kept.trans (Kept.grown hg hc (by decide) hgb), ?_⟩
  · rw [← hf, ← vU_set]
    exact own_setAt h.row hp _
  · refine (hg.block Bo (Array.getElem?_eq_some_iff.1 h.copy).1 (fun e => ?_)).trans h.copy
    cases e
    rw [show W.heap[_]? = _ from h.copy] at hc
    cases hc
theorem JoinP.cell {l : List Ob} {A : Option Addr} {ca : Nat} {B : Option Addr} {cB : Nat} {D : Option Addr} {cD : Nat} {q : Nat → Pl} {w : World} {n1 k g c Bo i : Nat} {W0 : World} {f : Nat → Int} {W : World} (h : JoinP l A ca B cB D cD q w n1 k g c Bo W0 f W) (hi : i < (ob l k).code.length) : W.cell? ⟨g, bsF l k + i, none⟩ = some (.int .u32 (f i)) ∧ W.frozen? ⟨g, bsF l k + i, none⟩ = false := by
  obtain ⟨cur, hc⟩ := own_block h.row rfl
  have e : nth (rowL l k f) (bsF l k + i) = f i := rowL_nth hi
  have hl : bsF l k + i < (rowL l k f).length := by rw [rowL_len, bsF]; omega
  have := h.row.cells rfl (bsF l k + i) (.int .u32 (f i)) (by rw [← e]; simp [vU, nth, List.getD, hl])
  rw [addzS] at this
  exact ⟨this, by simp [World.frozen?, hc]⟩

end Go.Proofs.YthpkekpojhmaaaaGreatDoor

namespace Go.Proofs.YthpkekpojhmaaaaGreatDoor
open Go.RowKit

attribute [local go_sem] Oper.semAt_some

theorem wpListIn_app {F : Fence} {n : Nat} {P : Program} {w w' : World} {ops : Array Oper} {rest : List Oper} {o : Oper} {a : Act} {Q : Exit → Act → World → Prop} (hg : o.guard = none) (s x : Operand) (t u : TypeId) (hop : o.op = Op.call { callee := Callee.builtin Builtin.append, args := #[s, x], argTypes := #[t, u] }) (vs vx : Value) (hs : a.eval s = vs) (hx : a.eval x = vx) {v' : Value} (hrun : (Builtin.append_ #[t, u] o.type #[vs, vx]).run P w = .ok v' w') (hK : wpListIn F n P ops Q rest (a.put o.dst v') w') : wpListIn F n P ops Q (o :: rest) a w := by
  refine wpListIn_plain hg fun K hK' => ?_
  unfold Oper.wpIn
  refine ⟨?_, ?_⟩
  · simp [Oper.about, hop, resolve, Target.leads, Sem.run_pure]
  · rw [Oper.semAt_plain F _ _ (by rw [hop]; intro c hc'; cases hc')]
    simp [execOp, hop, resolve, invoke, builtin, hs, hx, hrun, Result.andThen]
    exact hK' _ _ hK
theorem one_u {x : Int} : ∀ u ∈ [Value.int .u32 x], u.oneCell' = true := fun u hu => by
  simp only [List.mem_cons, List.not_mem_nil, or_false] at hu
  rw [hu]; rfl
/-- The object's code behind the text. -/
theorem app_code {O : Option Addr} {n c b : Nat} {p : Pl} {o : Ob} {W : World} {zs : List Int} {ty : TypeId} (hr : W.ownsRow b 78 1 (.slice O n c) n (vU zs)) (hO : ObIn W p o) (hn : n ≤ 67108928) (hb : b ≤ W.heap.size) : ∃ O' c' W', (Builtin.append_ #[168, 26] ty #[.slice O n c, .slice p.A1 o.code.length p.c1]).run Tryz.prog W = .ok (.slice O' (n + o.code.length) c') W' ∧ W'.ownsRow b 78 1 (.slice O' (n + o.code.length) c') (n + o.code.length) (vU (zs ++ o.code)) ∧ W.grownBy W' (Value.slice O n c).ownBlock := by
  obtain ⟨i0, hi0, hz0, hz1, hz2⟩ := infoU
  obtain ⟨_, c2, e2, hc⟩ := own_any hr
  cases e2
  have hcl := hO.hc
  cases hA : p.A1 with
  | none =>
    have h0 : o.code = [] := by
      cases hcd : o.code with
      | nil => rfl
      | cons x xs =>
        obtain ⟨a, e, -⟩ := hO.cd 0 (by rw [hcd]; simp)
        rw [hA] at e
        cases e
    rw [h0]
    refine ⟨O, c, W, append_zero Tryz.underlying168 Tryz.underlying26 hi0 hc, by simpa using hr, ⟨rfl, rfl, rfl, Nat.le_refl _, fun _ _ _ => rfl⟩⟩
  | some ad =>
    obtain ⟨v', W', h1, h2, h3, -⟩ := run_append_own (P := Tryz.prog) W b 168 ty 78 i0 (.int .u32 0) 1 4 Tryz.underlying168 hi0 hz0 hz1 hz2 rfl (by decide) (.slice O n c) n (vU zs) hr ad o.code.length p.c1 (vU o.code) (by simp [vU]) (fun j u hj => by
      have hl : j < o.code.length := by have := (List.getElem?_eq_some_iff.1 hj).1; simpa [vU] using this
      obtain ⟨a, e, hcj⟩ := hO.cd j hl
      rw [hA] at e
      cases e
      rw [hcj]
      simp [vU, hl] at hj
      rw [← hj]
      simp [nth, List.getD, hl]) all_u (by unfold maxLen; omega) (by omega) hb
    obtain ⟨O', c', e', -⟩ := own_any h2
    subst e'
    exact ⟨O', c', W', by rw [append_mix Tryz.underlying168 Tryz.underlying26]; exact h1, by rw [vU_app]; exact h2, h3⟩
theorem blk_past {W W' : World} {base : Nat} {e t : TypeId} {size B : Nat} {v : Value} {k : Nat} {xs : List Value} {cs : Array Value} (hb : W.heap[B]? = some (.cells cs t (0, 0))) (hr : W.ownsRow base e size v k xs) (hg : W.grownBy W' v.ownBlock) (h : t ≠ e) : W'.heap[B]? = some (.cells cs t (0, 0)) := by
  refine (hg.block B (Array.getElem?_eq_some_iff.1 hb).1 (fun e2 => ?_)).trans hb
  obtain ⟨cur, hc⟩ := own_block hr e2.symm
  rw [hb] at hc
  cases hc
  exact h rfl
/-- Behind the two appends and the store. -/
theorem join_start {l : List Ob} {A : Option Addr} {ca : Nat} {B : Option Addr} {cB : Nat} {D : Option Addr} {cD : Nat} {q : Nat → Pl} {w W W1 W2 W3 : World} {n1 k g c c0 c1 : Nat} {O O1 : Option Addr} (hI : JoinI l A ca B cB D cD w k W) (hs : w.heap.size + 1 + 1 + 1 + 1 + 1 ≤ W.heap.size) (h1 : Boxed W (w.heap.size + 1 + 1 + 1) 168 (.slice O (bsF l k) c0)) (h2 : W.ownsRow w.heap.size 78 1 (.slice O (bsF l k) c0) (bsF l k) (vU (textF l k)))
    (hb : Below W.heap.size W W1) (hC : CopyAt W1 W.heap.size (q k) (ob l k)) (hO : W2.ownsRow w.heap.size 78 1 (.slice O1 (bsF l k + (ob l k).code.length) c1) (bsF l k + (ob l k).code.length) (vU (textF l k ++ (ob l k).code))) (hg : W1.grownBy W2 (Value.slice O (bsF l k) c0).ownBlock)
    (h3 : W3.ownsRow w.heap.size 78 1 (.slice (some ⟨g, 0, none⟩) (bsF l k + (ob l k).code.length + 1) c) (bsF l k + (ob l k).code.length + 1) (vU (textF l k ++ (ob l k).code) ++ [.int .u32 0])) (hg3 : (W2.alloc (.cells #[.int .u32 0] 78)).grownBy W3 (Value.slice O1 (bsF l k + (ob l k).code.length) c1).ownBlock) :
    Boxed W3 (w.heap.size + 1 + 1 + 1) 168 (.slice O (bsF l k) c0) ∧ JoinP l A ca B cB D cD q w n1 k g c W.heap.size W (movF l k 0) (W3.setCell ⟨w.heap.size + 1 + 1 + 1, 0, none⟩ (.slice (some ⟨g, 0, none⟩) (bsF l (k + 1)) c)) := by
  have r1 := own_keep h2 hb
  have r2 := hO.alloc (.cells #[.int .u32 0] 78)
  have go : ∀ {B : Nat} {t : TypeId} {u : Value}, Boxed W B t u → t ≠ 78 → Boxed W3 B t u := fun h ht =>
    blk_past (old_at (blk_past ((hb.block _ h.lt).trans h) r1 hg ht)) r2 hg3 ht
  have cp : W3.heap[W.heap.size]? = _ := blk_past (old_at (blk_past hC r1 hg (by decide))) r2 hg3 (by decide)
  have bt := go h1 (by decide)
  have hl := hI.low.size
  have hbs := hb.size
  have hgs := hg.size
  have kp : Kept w.heap.size n1 W (W3.setCell ⟨w.heap.size + 1 + 1 + 1, 0, none⟩ (.slice (some ⟨g, 0, none⟩) (bsF l (k + 1)) c)) := ((((Kept.of hb (by omega)).trans (Kept.row r1 hg (by decide) (Nat.le_refl _) (by omega))).trans (Kept.of (lb_alloc (Below.refl _ _) _) (by omega))).trans (Kept.row r2 hg3 (by decide) (Nat.le_refl _) (by simp; omega))).trans (Kept.set bt (by decide) (by omega) _)
  refine ⟨bt, (go hI.b0 (by decide)).other (by omega) _, (go hI.b1 (by decide)).other (by omega) _, (go hI.b2 (by decide)).other (by omega) _, bt.set _, ?_, hI.low.trans kp.low, kp, row_off cp (by omega) _⟩
  refine ownsRow_setCell_other (a := ⟨w.heap.size + 1 + 1 + 1, 0, none⟩) ?_ ?_ _
  · rw [rowL_start, ← List.append_assoc, vU_app]
    exact h3
  · exact fun e => bt.not_row (by decide) h3 e.symm
set_option maxRecDepth 100000 in
set_option maxHeartbeats 16000000 in
theorem join_any (A : Option Addr) (ca : Nat) (q : Nat → Pl) (l : List Ob) (B : Option Addr) (cB : Nat) (D : Option Addr) (cD : Nat) (w : World) (hA : ObsIn w A q l) (hR : Res l) (hF : farL l = none) (hB : IntsAt w B .i64 (basT l l.length)) (hD : RowsAt w D (rowsT l l.length)) :
    Calls Tryz.prog 39 #[.slice A l.length ca, .slice B l.length cB, .slice D l.length cD] w fun e w' => ∃ (O : Option Addr) (c : Nat), e = .returned (.slice O (bsF l l.length) c) ∧ w'.ownsRow w.heap.size 78 1 (.slice O (bsF l l.length) c) (bsF l l.length) (vU (textF l l.length)) ∧ Below w.heap.size w w' := by
  have HA : Hid (ObsIn w A q l) := hA
  have HR : Hid (Res l) := hR
  have HF : Hid (farL l = none) := hF
  have HBs : Hid (IntsAt w B .i64 (basT l l.length)) := hB
  have HDs : Hid (RowsAt w D (rowsT l l.length)) := hD
  obtain ⟨i0, hi0, hz0, hz1, hz2⟩ := infoU
  have hf := hA.few
  have HC : Hid (∀ j, j < l.length → (ob l j).code.length ≤ 1048576) := fun j hj => (hA.each j hj).hc
  clear hA hR hF hB hD
  refine (callsIn_wide (n := 5)).1 ?_
  refine callsIn_of_wp_marks Tryz.func39 rfl trivial ?_ rfl
  simp only [Tryz.ntmps39, List.size_toArray, List.length_cons, List.length_nil, Nat.reduceAdd, Nat.reduceSub, Array.replicate_succ, Array.replicate_zero, List.push_toArray, List.append_toArray, List.nil_append, List.cons_append]
  gi_wp2_with fail
  refine ⟨trivial, (callsIn_wide.2 (layout_any _ _ _ _)).mono ?_⟩
  rintro e w' ⟨rfl, rfl⟩
  obtain ⟨W0, hW0⟩ : ∃ W0, W0 = ((((w.alloc (.cells #[.slice A l.length ca] 22)).alloc (.cells #[.slice B l.length cB] 33)).alloc (.cells #[.slice D l.length cD] 65)).alloc (.cells #[.slice none 0 0] 168)).alloc (.cells #[.slice A l.length ca] 22) := ⟨_, rfl⟩
  have hB0 : Below w.heap.size w W0 := by rw [hW0]; exact lb_alloc (lb_alloc (lb_alloc (lb_alloc (lb_alloc (Below.refl _ _) _) _) _) _) _
  have hS0 : W0.heap.size = w.heap.size + 1 + 1 + 1 + 1 + 1 := by rw [hW0]; simp
  have hI0 : JoinI l A ca B cB D cD w 0 W0 := by
    rw [hW0]
    exact ⟨(((((box_new rfl).alloc _).alloc _).alloc _).alloc _), ((((box_new (by simp)).alloc _).alloc _).alloc _), (((box_new (by simp)).alloc _).alloc _), ⟨none, 0, (box_new (by simp)).alloc _, World.ownsRow_nil _ _ _ _⟩, hW0 ▸ hB0⟩
  have hBx : W0.cell? ⟨w.heap.size + 1 + 1 + 1 + 1, 0, none⟩ = some (.slice A l.length ca) := by rw [hW0]; simp [go_sem]
  gi_wp2_with fail
  rw [← hW0]
  clear hW0
  refine range_layout 5 (by decide) w.heap.size (w.heap.size + 1 + 1 + 1 + 1) A ca q l w rfl hBx rfl (fun W h => HA.out.keep h) (by omega) (JoinI l A ca B cB D cD w) (fun _ _ => False) (fun k W W' h t => h.turn t (by omega)) (fun k W W' h _ => h) (fun k W h => h.low) hI0 (fun k => { tmps := #[.slice A l.length ca, .slice B l.length cB, .slice D l.length cD, .pointer (some ⟨w.heap.size, 0, none⟩), .pointer (some ⟨w.heap.size + 1, 0, none⟩), .pointer (some ⟨w.heap.size + 1 + 1, 0, none⟩), .slice none 0 0, .pointer (some ⟨w.heap.size + 1 + 1 + 1, 0, none⟩), .int .i64 (k : Int), .int .i64 (bsF l k : Int), undef, undef, undef, undef, .slice A l.length ca, .func (.func 142) #[] #[.pointer (some ⟨w.heap.size + 1 + 1 + 1 + 1, 0, none⟩)], .int .i64 (k : Int), .int .i64 (bsF l k : Int), undef, undef, undef, undef, undef, undef, undef, undef, undef, undef, undef, undef, undef, undef, undef, undef, undef, undef, undef, undef, undef, undef, undef, undef, undef, undef, undef, undef, undef, undef, undef, undef, undef, undef, undef, undef, undef, undef, undef, undef, undef, undef, undef, undef, undef, undef, undef, undef], defers := [] }) ?assign ?body ?done ?stop
  case assign =>
    intro l0 k W K hK
    gi_wp2
    exact hK
  case stop =>
    intro D' k W _ _ h _
    exact h.elim
  case done =>
    intro D' W hD' hI hK
    have HI : Hid (JoinI l A ca B cB D cD w l.length W) := hI
    obtain ⟨O, c, r1, r2⟩ := hI.row
    have HR2 : Hid (W.ownsRow w.heap.size 78 1 (.slice O (bsF l l.length) c) (bsF l l.length) (vU (textF l l.length))) := r2
    have hb5 := r1.cell
    have HK : Hid (W.heap[D']? = some (.deferred (some []))) := hK
    clear hI r1 r2 hK
    gi_wp2
    refine ⟨by simp, .inl ⟨_, _, rfl, run_takeDeferred HK.out, ?_⟩⟩
    exact ⟨_, results_tmp rfl _ _ _, O, c, rfl, ownsRow_putObj HR2.out _ HK.out rfl, HI.out.low.trans (belowK_b (w := w) (Nat.le_refl _) W D' _ _ (by omega) HK.out rfl rfl)⟩
  case body =>
    intro l0 k W hk hs0 hI
    have hs : w.heap.size + 1 + 1 + 1 + 1 + 1 ≤ W.heap.size := by omega
    have HI : Hid (JoinI l A ca B cB D cD w k W) := hI
    obtain ⟨O, c0, r1, r2⟩ := hI.row
    have HR1 : Hid (Boxed W (w.heap.size + 1 + 1 + 1) 168 (.slice O (bsF l k) c0)) := r1
    have HR2 : Hid (W.ownsRow w.heap.size 78 1 (.slice O (bsF l k) c0) (bsF l k) (vU (textF l k))) := r2
    have hb0 := hI.b0.cell
    have hk' : (k : Int) < (l.length : Int) := by omega
    obtain ⟨a, ea, x0, x1, x2, x3, x4, x5⟩ := (HA.out.keep hI.low).cells.six (Below.refl _ _) k hk
    have hcl := HC.out k hk
    have hsf := sum_fits HC.out hf (Nat.le_of_lt hk)
    have hsf1 : bsF l (k + 1) ≤ 67108928 := sum_fits HC.out hf hk
    subst ea
    clear hS0 hs0 hI0 hBx hI r1 r2
    -- the object's copy
    obtain ⟨W1, hW1⟩ : ∃ W1, W1 = W.alloc (.cells #[.string (ob l k).nm, .slice (q k).A1 (ob l k).code.length (q k).c1, .int .i64 (ob l k).dA, .slice (q k).A2 (ob l k).data.length (q k).c2, .slice (q k).A3 (ob l k).ss.length (q k).c3, .slice (q k).A4 (ob l k).rs.length (q k).c4] 75) := ⟨_, rfl⟩
    have hb1 : Below W.heap.size W W1 := by rw [hW1]; exact lb_alloc (Below.refl _ _) _
    have HC1 : Hid (CopyAt W1 W.heap.size (q k) (ob l k)) := by rw [Hid, hW1]; exact heap_alloc_new _ _
    have HB1 : Hid (Below W.heap.size W W1) := hb1
    have hw1 : w.heap.size ≤ W1.heap.size := by have := hb1.size; omega
    obtain ⟨O1, c1, W2, hrun, hown, hgrow⟩ := app_code (ty := 168) (own_keep HR2.out hb1) ((HA.out.keep (lb_trans HI.out.low hb1)).each k hk) hsf hw1
    have HO2 : Hid (W2.ownsRow w.heap.size 78 1 (.slice O1 (bsF l k + (ob l k).code.length) c1) (bsF l k + (ob l k).code.length) (vU (textF l k ++ (ob l k).code))) := hown
    have HG2 : Hid (W1.grownBy W2 (Value.slice O (bsF l k) c0).ownBlock) := hgrow
    have hb5 : W1.cell? ⟨w.heap.size + 1 + 1 + 1, 0, none⟩ = some (.slice O (bsF l k) c0) := lkeep hb1 HR1.out.cell
    obtain ⟨y1, -, -, -⟩ := HC1.out.cells
    clear hown hgrow
    gi_upto_region 6 with fail
    rw [← hW1]
    clear hW1 x0 x1 x2 x3 x4 x5 hb0
    gi_upto_region 7 with (first | (gi_at_builtin; refine wpListIn_app rfl _ _ 168 26 rfl _ _ rfl rfl hrun ?_) | (gi_at_builtin; go_loud (refine wpListIn_append_own _ rfl _ _ 168 rfl w.heap.size 78 i0 (.int .u32 0) 1 4 Tryz.underlying168 hi0 hz0 hz1 hz2 rfl (by decide) _ _ _ rfl (HO2.out.alloc _) ⟨W2.heap.size, 0, none⟩ 1 1 [.int .u32 0] rfl rfl (cell_one_new _ _ _) one_u (by unfold maxLen; omega) (by omega) (by have := HG2.out.size; simp; omega) ?_; intro v' W3 hown' hgrow' _; obtain ⟨g, c, rfl⟩ := ownsRow_succ hown'; obtain ⟨hv1, hP⟩ := join_start (n1 := W0.heap.size) HI.out hs HR1.out HR2.out HB1.out HC1.out HO2.out HG2.out hown' hgrow'; have hc1 := hv1.cell; have hf1 := hv1.frozen)))
    rw [show bsF l k + (ob l k).code.length + 1 = bsF l (k + 1) from rfl]
    obtain ⟨W4, hW4⟩ : ∃ W4, W4 = W3.setCell ⟨w.heap.size + 1 + 1 + 1, 0, none⟩ (.slice (some ⟨g, 0, none⟩) (bsF l (k + 1)) c) := ⟨_, rfl⟩
    rw [← hW4] at hP ⊢
    have HP : Hid (JoinP l (some a) ca B cB D cD q w W0.heap.size k g c W.heap.size W (movF l k 0) W4) := hP
    clear hW4 hP hown' hgrow' hv1 hc1 hf1 hrun y1 hb5 hb1
    obtain ⟨y1, -, -, -⟩ := HP.out.copy.cells
    gi_wp2
    clear y1
    gi_loopw [31] (fun i wz => ∃ j : Nat, i = .int .i64 j ∧ j ≤ (ob l k).code.length ∧ Hid (JoinP l (some a) ca B cB D cD q w W0.heap.size k g c W.heap.size W (movF l k j) wz)) (fun i _ => (ob l k).code.length - (intOf i).toNat)
    case atStart => exact ⟨0, rfl, Nat.zero_le _, HP⟩
    case round =>
      clear HP
      obtain ⟨j, rfl, hj, HP⟩ := hrel
      by_cases hjl : j < (ob l k).code.length
      · have hjl' : (j : Int) < ((ob l k).code.length : Int) := by omega
        have hbx := HP.out.b3.cell
        obtain ⟨p, hp⟩ : ∃ p : Nat, (bsF l k : Int) + (j : Int) = (p : Int) := ⟨bsF l k + j, by omega⟩
        have HPp : Hid (bsF l k + j = p) := by rw [Hid]; omega
        have hpn : p < bsF l (k + 1) := by rw [bsF]; omega
        obtain ⟨z1, z2⟩ := HP.out.cell hjl
        rw [HPp.out] at z1 z2
        have hmf : movF l k j j = nth (ob l k).code j := by unfold movF; rw [if_neg (by omega)]
        rw [hmf] at z1
        obtain ⟨v0, v1⟩ := (HA.out.each k hk).cr j hjl
        have C := patch_mov g (bsF l (k + 1)) c p (bsF l k) (nth (ob l k).code j) v0 v1 hsf wr hpn hsf1 z1 z2
        clear z1 z2 hmf
        gi_wp2_with fail
        refine ⟨trivial, (CallsIn.inRound l0 (callsIn_wide.2 C)).mono ?_⟩
        rintro e w2 ⟨rfl, w3, hb3, rfl⟩
        have HP2 : Hid (JoinP l (some a) ca B cB D cD q w W0.heap.size k g c W.heap.size W (movF l k (j + 1)) (w3.setCell ⟨g, p, none⟩ (.int .u32 (movV (nth (ob l k).code j) (bsF l k))))) := (HP.out.below hb3 HP.out.low.size).patch hpn (by rw [← HPp.out]; exact rowL_mov hjl)
        clear C hbx hb3
        gi_wp2
        go_roundw
        case rel => exact ⟨j + 1, by go_num, by omega, HP2⟩
        case measure => simp [intOf]; omega
      · have hjl' : ¬ (j : Int) < ((ob l k).code.length : Int) := by omega
        obtain rfl : j = (ob l k).code.length := by omega
        have HP3 : Hid (JoinP l (some a) ca B cB D cD q w W0.heap.size k g c W.heap.size W (relF l k 0) wr) := by
          have := HP.out
          exact ⟨this.b0, this.b1, this.b2, this.b3, by rw [← rowL_moved]; exact this.row, this.low, this.kept, this.copy⟩
        clear HP
        obtain ⟨-, -, -, y5⟩ := HP3.out.copy.cells
        have hrl := (HA.out.each k hk).hl
        gi_wp2
        clear y5
        gi_loopw [44] (fun i wz => ∃ r : Nat, i = .int .i64 r ∧ r ≤ (ob l k).rs.length ∧ Hid (JoinP l (some a) ca B cB D cD q w W0.heap.size k g c W.heap.size W (relF l k r) wz)) (fun i _ => (ob l k).rs.length - (intOf i).toNat)
        case atStart => exact ⟨0, rfl, Nat.zero_le _, HP3⟩
        case round =>
          clear HP3
          obtain ⟨r, rfl, hr, HP⟩ := hrel
          by_cases hrl2 : r < (ob l k).rs.length
          · have hrl' : (r : Int) < ((ob l k).rs.length : Int) := by omega
            obtain ⟨a4, e4, g0, g1⟩ := ((HA.out.keep HP.out.low).each k hk).rl r hrl2
            have g1' : wr.cell? ⟨(a4.add (r * 2)).block, (a4.add (r * 2)).off + 1, none⟩ = some (.int .i64 (rSym (ob l k).rs r)) := g1
            obtain ⟨p0, p1, -, s0, s1, hT, ht⟩ := rel_parts.1 ((HR.out.may k hk).2.2.1 r hrl2)
            obtain ⟨i, hi⟩ : ∃ i : Nat, rAt (ob l k).rs r = (i : Int) := ⟨(rAt (ob l k).rs r).toNat, by omega⟩
            obtain ⟨sy, hsy⟩ : ∃ sy : Nat, rSym (ob l k).rs r = (sy : Int) := ⟨(rSym (ob l k).rs r).toNat, by omega⟩
            have HIi : Hid (rAt (ob l k).rs r = (i : Int)) := hi
            have HSy : Hid (rSym (ob l k).rs r = (sy : Int)) := hsy
            rw [hi] at g0
            rw [hsy] at g1'
            rw [e4]
            clear e4 g1 hi hsy
            obtain ⟨x, y, est, hx, hy0, hy1, -⟩ := HR.out.stand hk (k := sy) (by have := HSy.out; omega)
            have hx' : (x : Int) < (l.length : Int) := by omega
            have hcx := HC.out x hx
            have hsx := sum_fits HC.out hf (Nat.le_of_lt hx)
            have HE : Hid (standS l k sy = ((x : Int), y)) := est
            obtain ⟨aD, R, kc, eD, cDc, rR⟩ := HDs.out k (by rw [rowsT_len]; exact hk)
            rw [rowsT_at l hk] at cDc rR
            rw [rowT_len] at cDc
            have hsl : sy < (ob l k).ss.length := by have := HSy.out; omega
            have hsl' : (sy : Int) < ((ob l k).ss.length : Int) := by omega
            obtain ⟨aE, eE, d0, d1⟩ := rR sy (by rw [rowT_len]; exact hsl)
            rw [(rowT_at hsl).1, est] at d0
            rw [(rowT_at hsl).2, est] at d1
            subst eD
            subst eE
            have d1' : w.cell? ⟨(aE.add (sy * 2)).block, (aE.add (sy * 2)).off + 1, none⟩ = some (.int .i64 y) := d1
            have hgl : g < wr.heap.size := (HP.out.row.lt g rfl).2
            have hgw : w.heap.size ≤ g := (HP.out.row.lt g rfl).1
            obtain ⟨cur, hcur⟩ := own_block HP.out.row (b := g) rfl
            have ne1 : w.heap.size + 1 ≠ g := fun e => by have := HP.out.b1; rw [e] at this; rw [show wr.heap[g]? = _ from this] at hcur; cases hcur
            have ne2 : w.heap.size + 1 + 1 ≠ g := fun e => by have := HP.out.b2; rw [e] at this; rw [show wr.heap[g]? = _ from this] at hcur; cases hcur
            have ne3 : w.heap.size + 1 + 1 + 1 ≠ g := fun e => by have := HP.out.b3; rw [e] at this; rw [show wr.heap[g]? = _ from this] at hcur; cases hcur
            have neD : (aD.add k).block ≠ g := by have := zcell_lt cDc; omega
            have neE : (aE.add (sy * 2)).block ≠ g := by have := zcell_lt d0; omega
            obtain ⟨W5, hW5⟩ : ∃ W5, W5 = wr.alloc (.cells #[.int .i64 (i : Int), .int .i64 (sy : Int)] 83) := ⟨_, rfl⟩
            have hb5 : Below wr.heap.size wr W5 := by rw [hW5]; exact lb_alloc (Below.refl _ _) _
            have hbw : Below w.heap.size w W5 := lb_trans HP.out.low hb5
            have q0 : W5.cell? ⟨wr.heap.size, 0, none⟩ = some (.int .i64 (i : Int)) := by rw [hW5]; simp [go_sem]
            have q1 : W5.cell? ⟨wr.heap.size, 1, none⟩ = some (.int .i64 (sy : Int)) := by rw [hW5]; simp [go_sem]
            have hS5 : (fun X : World => X.cell? ⟨w.heap.size + 1 + 1 + 1, 0, none⟩ = some (.slice (some ⟨g, 0, none⟩) (bsF l (k + 1)) c) ∧ X.cell? ⟨wr.heap.size, 0, none⟩ = some (.int .i64 (i : Int)) ∧ X.cell? ⟨wr.heap.size, 1, none⟩ = some (.int .i64 (sy : Int)) ∧ X.cell? ⟨w.heap.size + 1 + 1, 0, none⟩ = some (.slice (some aD) l.length cD) ∧ X.cell? (aD.add k) = some (.slice (some aE) (ob l k).ss.length kc) ∧ X.cell? (aE.add (sy * 2)) = some (.int .i64 (x : Int)) ∧ X.cell? ⟨(aE.add (sy * 2)).block, (aE.add (sy * 2)).off + 1, none⟩ = some (.int .i64 y) ∧ X.cell? ⟨w.heap.size + 1, 0, none⟩ = some (.slice B l.length cB)) W5 :=
              ⟨lkeep hb5 HP.out.b3.cell, q0, q1, lkeep hb5 HP.out.b2.cell, lkeep hbw cDc, lkeep hbw d0, lkeep hbw d1', lkeep hb5 HP.out.b1.cell⟩
            have HP5 : Hid (JoinP l (some a) ca B cB (some aD) cD q w W0.heap.size k g c W.heap.size W (relF l k r) W5) := HP.out.below hb5 HP.out.low.size
            obtain ⟨p, hp⟩ : ∃ p : Nat, (bsF l k : Int) + (i : Int) = (p : Int) := ⟨bsF l k + i, by omega⟩
            have HPp : Hid (bsF l k + i = p) := by rw [Hid]; omega
            have hil : i < (ob l k).code.length := by have := HIi.out; omega
            have hpn : p < bsF l (k + 1) := by rw [bsF]; omega
            have hwp : IntKind.i64.wrap (p : Int) = (p : Int) := wrapI64 (by omega) (by omega)
            gi_upto_region 15 with fail
            rw [← hW5]
            clear hW5 g0 g1' q0 q1 d0 d1 d1' cDc rR est
            refine round_any (S := fun X : World => X.cell? ⟨w.heap.size + 1 + 1 + 1, 0, none⟩ = some (.slice (some ⟨g, 0, none⟩) (bsF l (k + 1)) c) ∧ X.cell? ⟨wr.heap.size, 0, none⟩ = some (.int .i64 (i : Int)) ∧ X.cell? ⟨wr.heap.size, 1, none⟩ = some (.int .i64 (sy : Int)) ∧ X.cell? ⟨w.heap.size + 1 + 1, 0, none⟩ = some (.slice (some aD) l.length cD) ∧ X.cell? (aD.add k) = some (.slice (some aE) (ob l k).ss.length kc) ∧ X.cell? (aE.add (sy * 2)) = some (.int .i64 (x : Int)) ∧ X.cell? ⟨(aE.add (sy * 2)).block, (aE.add (sy * 2)).off + 1, none⟩ = some (.int .i64 y) ∧ X.cell? ⟨w.heap.size + 1, 0, none⟩ = some (.slice B l.length cB)) (by kernel_rfl) (noDefer_spec (by kernel_rfl)) (fun ⟨_, _, h⟩ => h) hS5 (fun hHeld => ?_)
            refine wpAnyH_take (i := 0) (oi := { dst := some 48, op := Op.load 168 (Operand.tmp 7), type := 168, pos := "text.go:32", after := #[], guard := none }) (v := ?_) rfl (by kernel_rfl) (by kernel_rfl) (by kernel_rfl) (fun _ _ _ h => h) (Or.inl ⟨by rfl, ?_⟩) hHeld ?_
            rotate_left
            · intro X hSX
              go_simp
              first | done | with_reducible rfl
            simp only [Act.put, List.setIfInBounds_toArray, List.set_cons_zero, List.set_cons_succ]
            refine wpAnyH_take (i := 1) (oi := { dst := some 49, op := Op.move (Operand.tmp 9), type := 3, pos := "text.go:32", after := #[], guard := none }) (v := ?_) rfl (by kernel_rfl) (by kernel_rfl) (by kernel_rfl) (fun _ _ _ h => h) (Or.inl ⟨by rfl, ?_⟩) hHeld ?_
            rotate_left
            · intro X hSX
              go_simp
              first | done | with_reducible rfl
            simp only [Act.put, List.setIfInBounds_toArray, List.set_cons_zero, List.set_cons_succ]
            refine wpAnyH_take (i := 2) (oi := { dst := some 50, op := Op.fieldAddr 83 (Operand.tmp 13) 0, type := 0, pos := "text.go:32", after := #[], guard := none }) (v := ?_) rfl (by kernel_rfl) (by kernel_rfl) (by kernel_rfl) (fun _ _ _ h => h) (Or.inl ⟨by rfl, ?_⟩) hHeld ?_
            rotate_left
            · intro X hSX
              go_simp
              first | done | with_reducible rfl
            simp only [Act.put, List.setIfInBounds_toArray, List.set_cons_zero, List.set_cons_succ]
            refine wpAnyH_take (i := 3) (oi := { dst := some 51, op := Op.load 3 (Operand.tmp 50), type := 3, pos := "text.go:32", after := #[{ on := 2, ground := Ground.data }], guard := none }) (v := ?_) rfl (by kernel_rfl) (by kernel_rfl) (by kernel_rfl) (fun _ _ _ h => h) (Or.inl ⟨by rfl, ?_⟩) hHeld ?_
            rotate_left
            · intro X hSX
              go_simp
              first | done | with_reducible rfl
            simp only [Act.put, List.setIfInBounds_toArray, List.set_cons_zero, List.set_cons_succ]
            refine wpAnyH_take (i := 4) (oi := { dst := some 52, op := Op.binOp BinOp.add 3 (Operand.tmp 49) (Operand.tmp 51) 3, type := 3, pos := "text.go:32", after := #[{ on := 1, ground := Ground.data }, { on := 3, ground := Ground.data }], guard := none }) (v := ?_) rfl (by kernel_rfl) (by kernel_rfl) (by kernel_rfl) (fun _ _ _ h => h) (Or.inl ⟨by rfl, ?_⟩) hHeld ?_
            rotate_left
            · intro X hSX
              go_simp
              first | done | with_reducible rfl
            simp only [Act.put, List.setIfInBounds_toArray, List.set_cons_zero, List.set_cons_succ]
            refine wpAnyH_take (i := 5) (oi := { dst := some 53, op := Op.load 65 (Operand.tmp 5), type := 65, pos := "text.go:32", after := #[], guard := none }) (v := ?_) rfl (by kernel_rfl) (by kernel_rfl) (by kernel_rfl) (fun _ _ _ h => h) (Or.inl ⟨by rfl, ?_⟩) hHeld ?_
            rotate_left
            · intro X hSX
              go_simp
              first | done | with_reducible rfl
            simp only [Act.put, List.setIfInBounds_toArray, List.set_cons_zero, List.set_cons_succ]
            refine wpAnyH_take (i := 6) (oi := { dst := some 54, op := Op.move (Operand.tmp 8), type := 3, pos := "text.go:32", after := #[], guard := none }) (v := ?_) rfl (by kernel_rfl) (by kernel_rfl) (by kernel_rfl) (fun _ _ _ h => h) (Or.inl ⟨by rfl, ?_⟩) hHeld ?_
            rotate_left
            · intro X hSX
              go_simp
              first | done | with_reducible rfl
            simp only [Act.put, List.setIfInBounds_toArray, List.set_cons_zero, List.set_cons_succ]
            refine wpAnyH_take (i := 7) (oi := { dst := some 55, op := Op.indexAddr 65 (Operand.tmp 53) (Operand.tmp 54), type := 0, pos := "text.go:32", after := #[{ on := 5, ground := Ground.data }, { on := 6, ground := Ground.data }], guard := none }) (v := ?_) rfl (by kernel_rfl) (by kernel_rfl) (by kernel_rfl) (fun _ _ _ h => h) (Or.inl ⟨by rfl, ?_⟩) hHeld ?_
            rotate_left
            · intro X hSX
              go_simp
              first | done | with_reducible rfl
            simp only [Act.put, List.setIfInBounds_toArray, List.set_cons_zero, List.set_cons_succ]
            refine wpAnyH_take (i := 8) (oi := { dst := some 56, op := Op.load 77 (Operand.tmp 55), type := 77, pos := "text.go:32", after := #[{ on := 7, ground := Ground.data }], guard := none }) (v := ?_) rfl (by kernel_rfl) (by kernel_rfl) (by kernel_rfl) (fun _ _ _ h => h) (Or.inl ⟨by rfl, ?_⟩) hHeld ?_
            rotate_left
            · intro X hSX
              go_simp
              first | done | with_reducible rfl
            simp only [Act.put, List.setIfInBounds_toArray, List.set_cons_zero, List.set_cons_succ]
            refine wpAnyH_take (i := 9) (oi := { dst := some 57, op := Op.fieldAddr 83 (Operand.tmp 13) 1, type := 0, pos := "text.go:32", after := #[], guard := none }) (v := ?_) rfl (by kernel_rfl) (by kernel_rfl) (by kernel_rfl) (fun _ _ _ h => h) (Or.inl ⟨by rfl, ?_⟩) hHeld ?_
            rotate_left
            · intro X hSX
              go_simp
              first | done | with_reducible rfl
            simp only [Act.put, List.setIfInBounds_toArray, List.set_cons_zero, List.set_cons_succ]
            refine wpAnyH_take (i := 10) (oi := { dst := some 58, op := Op.load 3 (Operand.tmp 57), type := 3, pos := "text.go:32", after := #[{ on := 9, ground := Ground.data }], guard := none }) (v := ?_) rfl (by kernel_rfl) (by kernel_rfl) (by kernel_rfl) (fun _ _ _ h => h) (Or.inl ⟨by rfl, ?_⟩) hHeld ?_
            rotate_left
            · intro X hSX
              go_simp
              first | done | with_reducible rfl
            simp only [Act.put, List.setIfInBounds_toArray, List.set_cons_zero, List.set_cons_succ]
            refine wpAnyH_take (i := 11) (oi := { dst := some 59, op := Op.indexAddr 77 (Operand.tmp 56) (Operand.tmp 58), type := 0, pos := "text.go:32", after := #[{ on := 8, ground := Ground.data }, { on := 10, ground := Ground.data }], guard := none }) (v := ?_) rfl (by kernel_rfl) (by kernel_rfl) (by kernel_rfl) (fun _ _ _ h => h) (Or.inl ⟨by rfl, ?_⟩) hHeld ?_
            rotate_left
            · intro X hSX
              go_simp
              first | done | with_reducible rfl
            simp only [Act.put, List.setIfInBounds_toArray, List.set_cons_zero, List.set_cons_succ]
            refine wpAnyH_take (i := 12) (oi := { dst := some 60, op := Op.load 69 (Operand.tmp 59), type := 69, pos := "text.go:32", after := #[{ on := 11, ground := Ground.data }], guard := none }) (v := ?_) rfl (by kernel_rfl) (by kernel_rfl) (by kernel_rfl) (fun _ _ _ h => h) (Or.inl ⟨by rfl, ?_⟩) hHeld ?_
            rotate_left
            · intro X hSX
              go_simp
              first | done | with_reducible rfl
            simp only [Act.put, List.setIfInBounds_toArray, List.set_cons_zero, List.set_cons_succ]
            refine wpAnyH_take (i := 13) (oi := { dst := some 61, op := Op.load 33 (Operand.tmp 4), type := 33, pos := "text.go:32", after := #[], guard := none }) (v := ?_) rfl (by kernel_rfl) (by kernel_rfl) (by kernel_rfl) (fun _ _ _ h => h) (Or.inl ⟨by rfl, ?_⟩) hHeld ?_
            rotate_left
            · intro X hSX
              go_simp
              first | done | with_reducible rfl
            simp only [Act.put, List.setIfInBounds_toArray, List.set_cons_zero, List.set_cons_succ]
            have hbd : Below W5.heap.size W5 W5.drew := ⟨rfl, rfl, rfl, Nat.le_refl _, fun _ _ => rfl⟩
            have HPd : Hid (JoinP l (some a) ca B cB (some aD) cD q w W0.heap.size k g c W.heap.size W (relF l k r) W5.drew) := HP5.out.below hbd HP5.out.low.size
            have C14 := placeOf_any l x y B cB W5.drew (HBs.out.keep (lb_trans hbw hbd)) hx hsx ⟨hy0, by omega⟩
            have hgd : wr.heap.size < W5.drew.heap.size := by have := zcell_lt hHeld.2.1; exact this
            generalize W5.drew = X5 at hHeld hbd HPd C14 hgd ⊢
            refine wpAnyH_ready (rs := [14]) (by kernel_rfl) (by simp) (AllReadyH.cons (o := { dst := some 62, op := Op.call { callee := Callee.value (Operand.func 40), args := #[Operand.tmp 60, Operand.tmp 61], argTypes := #[69, 33] }, type := 3, pos := "text.go:32", after := #[{ on := 12, ground := Ground.data }, { on := 13, ground := Ground.data }], guard := none }) rfl (fun K hK => ?_) AllReadyH.nil)
            go_simp
            refine C14.mono ?_
            rintro e X6 ⟨rfl, hb6⟩
            try simp only []
            refine hK.out _ _ ⟨lkeep hb6 hHeld.1, lkeep hb6 hHeld.2.1, lkeep hb6 hHeld.2.2.1, lkeep hb6 hHeld.2.2.2.1, lkeep hb6 hHeld.2.2.2.2.1, lkeep hb6 hHeld.2.2.2.2.2.1, lkeep hb6 hHeld.2.2.2.2.2.2.1, lkeep hb6 hHeld.2.2.2.2.2.2.2⟩ (fun hHeld2 => ?_)
            clear hK K C14
            try simp only [Act.put, List.setIfInBounds_toArray, List.set_cons_zero, List.set_cons_succ]
            have HP6 : Hid (JoinP l (some a) ca B cB (some aD) cD q w W0.heap.size k g c W.heap.size W (relF l k r) X6) := HPd.out.below hb6 HPd.out.low.size
            have hai : atR (ob l k).rs (i : Int) = r := by rw [← HIi.out]; exact may_at (HR.out.may k hk) r hrl2
            have hrf : relF l k r i = movV (nth (ob l k).code i) (bsF l k) := by unfold relF; rw [if_neg (by omega)]
            obtain ⟨z1, z2⟩ := HP6.out.cell hil
            rw [HPp.out, hrf] at z1
            rw [HPp.out] at z2
            obtain ⟨v0, v1⟩ := (HA.out.each k hk).cr i hil
            obtain ⟨m0, m1⟩ := movV_range (b := bsF l k) v0 v1
            have C15 := patch_aim g (bsF l (k + 1)) c p ((bsF l x : Int) + y) (movV (nth (ob l k).code i) (bsF l k)) m0 m1 X6 hpn hsf1 z1 z2
            have HW : Hid (aimV (movV (nth (ob l k).code i) (bsF l k)) ((bsF l x : Int) + y) = wordF l k i) := by
              have := rel_word HR.out HF.out hk hrl2 (by rw [HSy.out]; simpa using HE.out) hx hy0 hy1
              rw [HIi.out] at this
              rw [Hid]
              simpa using this
            refine wpAnyH_ready (rs := [15]) (by kernel_rfl) (by simp) (AllReadyH.cons (o := { dst := some 63, op := Op.call { callee := Callee.value (Operand.func 93), args := #[Operand.tmp 48, Operand.tmp 52, Operand.func 95, Operand.tmp 62], argTypes := #[168, 3, 254, 3] }, type := 0, pos := "text.go:32", after := #[{ on := 0, ground := Ground.data }, { on := 4, ground := Ground.data }, { on := 14, ground := Ground.data }, { on := 14, ground := Ground.chain }], guard := none }) rfl (fun K hK => ?_) AllReadyH.nil)
            go_simp
            refine C15.mono ?_
            rintro e X7 ⟨rfl, X8, hb8, rfl⟩
            try simp only []
            refine hK.out _ _ ⟨cell_set_ne (lkeep hb8 hHeld2.1) ne3, cell_set_ne (lkeep hb8 hHeld2.2.1) (Nat.ne_of_gt hgl), cell_set_ne (lkeep hb8 hHeld2.2.2.1) (Nat.ne_of_gt hgl), cell_set_ne (lkeep hb8 hHeld2.2.2.2.1) ne2, cell_set_ne (lkeep hb8 hHeld2.2.2.2.2.1) neD, cell_set_ne (lkeep hb8 hHeld2.2.2.2.2.2.1) neE, cell_set_ne (lkeep hb8 hHeld2.2.2.2.2.2.2.1) neE, cell_set_ne (lkeep hb8 hHeld2.2.2.2.2.2.2.2) ne1⟩ (fun _ => ?_)
            clear hK K C15
            have HP7 : Hid (JoinP l (some a) ca B cB (some aD) cD q w W0.heap.size k g c W.heap.size W (relF l k (r + 1)) (X8.setCell ⟨g, p, none⟩ (.int .u32 (aimV (movV (nth (ob l k).code i) (bsF l k)) ((bsF l x : Int) + y))))) := by
              rw [Hid, HW.out]
              exact (HP6.out.below hb8 HP6.out.low.size).patch hpn (by rw [← HPp.out]; exact rowL_rel hil hai)
            try simp only [Act.put, List.setIfInBounds_toArray, List.set_cons_zero, List.set_cons_succ]
            refine wpAnyH_done (by kernel_rfl) ?_ _
            clear hHeld hHeld2 z1 z2 hb6 hb8 hS5
            gi_wp2
            go_roundw
            case rel => exact ⟨r + 1, by go_num, by omega, HP7⟩
            case measure => simp [intOf]; omega
          · have hrl' : ¬ (r : Int) < ((ob l k).rs.length : Int) := by omega
            obtain rfl : r = (ob l k).rs.length := by omega
            have HI2 : Hid (JoinI l (some a) ca B cB D cD w (k + 1) wr) := ⟨HP.out.b0, HP.out.b1, HP.out.b2, ⟨_, _, HP.out.b3, by rw [← rowL_end]; exact HP.out.row⟩, HP.out.low⟩
            have HKp : Hid (Kept w.heap.size W0.heap.size W wr) := HP.out.kept
            clear HP
            gi_wp2
            exact ⟨HKp.out, HI2.out⟩

end Go.Proofs.YthpkekpojhmaaaaGreatDoor

namespace Go.Proofs.YthpkekpojhmaaaaGreatDoor
open Go.RowKit

/-- Blocks of places, between two numbers, may have been written over. -/
structure Mk (TD : TypeId) (s1 s2 : Nat) (w0 w : World) : Prop where
  os : w.os = w0.os
  tape : w.tape = w0.tape
  output : w.output = w0.output
  size : w.heap.size = w0.heap.size
  block : ∀ b : Nat, ¬ (s1 ≤ b ∧ b < s2) → w.heap[b]? = w0.heap[b]?
  typ : ∀ (b : Nat) (cur0 : Array Value) (t : TypeId), w0.heap[b]? = some (.cells cur0 t (0, 0)) → ∃ cur : Array Value, w.heap[b]? = some (.cells cur t (0, 0)) ∧ cur.size = cur0.size ∧ (t ≠ TD → cur = cur0)
theorem Mk.refl (TD : TypeId) (s1 s2 : Nat) (w : World) : Mk TD s1 s2 w w := ⟨rfl, rfl, rfl, rfl, fun _ _ => rfl, fun _ cur _ h => ⟨cur, h, rfl, fun _ => rfl⟩⟩
theorem set_rowM {w : World} {g k : Nat} {cur : Array Value} {t : TypeId} (h : w.heap[g]? = some (.cells cur t (0, 0))) (u : Value) : (w.setCell ⟨g, k, none⟩ u).heap[g]? = some (.cells (cur.setIfInBounds k u) t (0, 0)) := by
  simp [World.setCell, Array.getElem?_modify, h]
theorem Mk.set {TD : TypeId} {s1 s2 : Nat} {w0 w : World} (h : Mk TD s1 s2 w0 w) {g p : Nat} {cur : Array Value} (hg : w.heap[g]? = some (.cells cur TD (0, 0))) (h1 : s1 ≤ g) (h2 : g < s2) (u : Value) : Mk TD s1 s2 w0 (w.setCell ⟨g, p, none⟩ u) := by
  have hoff : ∀ b : Nat, b ≠ g → (w.setCell ⟨g, p, none⟩ u).heap[b]? = w.heap[b]? := fun b hb => Below.heap_setCell _ _ _ _ (fun e => hb (by first | exact e | exact e.symm))
  refine ⟨h.os, h.tape, h.output, by rw [← h.size]; simp [World.setCell], fun b hb => ?_, fun b cur0 t h0 => ?_⟩
  · rw [hoff b (fun e => hb (by rw [e]; exact ⟨h1, h2⟩))]
    exact h.block b hb
  · obtain ⟨c, hc, hs, ht⟩ := h.typ b cur0 t h0
    by_cases he : b = g
    · subst he
      rw [hg] at hc
      simp only [Option.some.injEq, Obj.cells.injEq] at hc
      obtain ⟨rfl, rfl, _⟩ := hc
      exact ⟨_, set_rowM hg u, by rw [Array.size_setIfInBounds]; exact hs, fun hn => absurd rfl hn⟩
    · exact ⟨c, by rw [hoff b he]; exact hc, hs, ht⟩
theorem Mk.below {TD : TypeId} {s1 s2 n : Nat} {W w0 w : World} (h : Mk TD s1 s2 w0 w) (hb : Below n W w0) (hn : n ≤ s1) : Below n W w :=
  ⟨by rw [h.os]; exact hb.os, by rw [h.tape]; exact hb.tape, by rw [h.output]; exact hb.output, by rw [h.size]; exact hb.size, fun k hk => by rw [h.block k (by omega)]; exact hb.block k hk⟩
theorem Mk.own {TD : TypeId} {s1 s2 base n size : Nat} {e : TypeId} {v : Value} {xs : List Value} {w0 w : World} (h : Mk TD s1 s2 w0 w) (ho : w0.ownsRow base e size v n xs) (hs : s2 ≤ base) : w.ownsRow base e size v n xs := by
  refine ⟨ho.1, ?_⟩
  rcases ho.2 with hn | ⟨g, cap, cur, hv, hb, hg, rest⟩
  · exact .inl hn
  · exact .inr ⟨g, cap, cur, hv, hb, by rw [h.block g (by omega)]; exact hg, rest⟩
theorem Mk.rows {TD : TypeId} {s1 s2 base : Nat} {TS TE : TypeId} {V : Value} {vs : List Value} {rows : List (List Rel)} {w0 w : World} (h : Mk TD s1 s2 w0 w) (ho : RowsD w0 base TS TE V vs rows) (hs : s2 ≤ base) : RowsD w base TS TE V vs rows := ⟨h.own ho.bag hs, fun i hi => h.own (ho.row i hi) hs⟩
theorem RowsD.all {w : World} {base c : Nat} {TS TD : TypeId} {A : Option Addr} {n : Nat} {vs : List Value} {rows : List (List Rel)} (h : RowsD w base TS TD (.slice A n c) vs rows) : RowsAt w A rows := fun i hi => h.at i hi
/-- What a loop that writes over an answer meets. -/
theorem Mk.bag {TS TD : TypeId} {s1 s2 base c n : Nat} {A : Option Addr} {vs : List Value} {rows : List (List Rel)} {w0 w : World} (h : Mk TD s1 s2 w0 w) (ho : RowsD w0 base TS TD (.slice A n c) vs rows) (hT : TS ≠ TD) (i : Nat) (hi : i < rows.length) : ∃ g, A = some ⟨g, 0, none⟩ ∧ w.cell? ⟨g, i, none⟩ = some (vn vs i) := by
  obtain ⟨g, e, _, _, hc, cur, hg⟩ := ho.blk i hi
  obtain ⟨c2, h2, _, h3⟩ := h.typ g cur TS hg
  refine ⟨g, e, ?_⟩
  rw [h3 hT] at h2
  rw [← hc]
  simp [World.cell?, h2, hg]
theorem Mk.row {TS TD : TypeId} {s1 s2 : Nat} {V : Value} {vs : List Value} {rows : List (List Rel)} {w0 w w3 : World} (h : Mk TD s1 s2 w0 w) (ho : RowsD w3 s1 TS TD V vs rows) (hs : w3.heap.size = s2) (hk : Below w3.heap.size w3 w0) (i : Nat) (hi : i < rows.length) (hp : 0 < (rowN rows i).length) : ∃ g c cur, vn vs i = .slice (some ⟨g, 0, none⟩) (rowN rows i).length c ∧ s1 ≤ g ∧ g < s2 ∧ w.heap[g]? = some (.cells cur TD (0, 0)) ∧ (rowN rows i).length * 2 ≤ cur.size := by
  obtain ⟨g, c, cur, e, hb, hg, hz, _⟩ := drow_blk (ho.row i hi) hp
  have hlt : g < w3.heap.size := (Array.getElem?_eq_some_iff.1 hg).1
  obtain ⟨c2, h2, h3, _⟩ := h.typ g cur TD (by rw [hk.block g hlt]; exact hg)
  exact ⟨g, c, c2, e, hb, by omega, h2, by omega⟩
theorem cell_at {w : World} {g p : Nat} {cur : Array Value} {t : TypeId} (h : w.heap[g]? = some (.cells cur t (0, 0))) (hp : p < cur.size) : ∃ u, w.cell? ⟨g, p, none⟩ = some u ∧ w.frozen? ⟨g, p, none⟩ = false := by
  exact ⟨cur[p], by simp [World.cell?, h, hp], by simp [World.frozen?, h]⟩
/-- Few and short: an answer. -/
theorem few_res {w : World} {A : Option Addr} {q : Nat → Pl} {l : List Ob} (h : ObsIn w A q l) : FewR (resL l) := by
  unfold resL
  split
  · exact ⟨by simp, fun i hi => by simp at hi⟩
  · refine ⟨by rw [rowsT_len]; exact h.few, fun i hi => ?_⟩
    rw [rowsT_len] at hi
    rw [rowsT_at l hi, rowT_len]
    exact (h.each i hi).hs



end Go.Proofs.YthpkekpojhmaaaaGreatDoor

namespace Go.Proofs.YthpkekpojhmaaaaGreatDoor
open Go.RowKit

theorem fst_congr {β : Type} {f g : Nat → Option β} : ∀ {n : Nat}, (∀ j, j < n → f j = g j) → fstN f n = fstN g n
  | 0, _ => rfl
  | n + 1, h => by rw [fstN, fstN, fst_congr (fun j hj => h j (by omega)), h n (by omega)]
theorem rowF_succ (nm : ByteArray) (kd : Int) (ss : List Sym) (n : Nat) : rowF nm kd ss (n + 1) = match rowF nm kd ss n with
    | some a => some a
    | none => hitS nm kd ss n := by unfold rowF; rw [fstN]; cases fstN (hitS nm kd ss) n <;> rfl
theorem hitO_other (nm : ByteArray) (kd : Int) (l : List Ob) {o s o' s' i : Nat} (h : upTo l o s i = upTo l o' s' i) : hitO nm kd l o s i = hitO nm kd l o' s' i := by unfold hitO; rw [h]
/-- One symbol more. -/
theorem firstF_step (nm : ByteArray) (kd : Int) (l : List Ob) {i k : Nat} (hi : i < l.length) (hk : k < (ob l i).ss.length) : firstF nm kd l i (k + 1) = match firstF nm kd l i k with
    | some x => some x
    | none => (hitS nm kd (ob l i).ss k).map fun a => (i, a) := by
  unfold firstF
  rw [show min l.length (i + 1) = i + 1 by omega, fstN, fstN]
  rw [fst_congr (f := hitO nm kd l i (k + 1)) (g := hitO nm kd l i k) (fun j hj => hitO_other _ _ _ (by unfold upTo; rw [if_neg (by omega), if_neg (by omega)]))]
  cases fstN (hitO nm kd l i k) i with
  | some b => rfl
  | none =>
    show hitO nm kd l i (k + 1) i = match hitO nm kd l i k i with
      | some x => some x
      | none => _
    unfold hitO
    rw [show upTo l i (k + 1) i = k + 1 by unfold upTo; rw [if_pos rfl]; omega, show upTo l i k i = k by unfold upTo; rw [if_pos rfl]; omega, rowF_succ]
    cases rowF nm kd (ob l i).ss k <;> rfl
/-- The next object. -/
theorem firstF_next (nm : ByteArray) (kd : Int) (l : List Ob) {i : Nat} (hi : i < l.length) : firstF nm kd l (i + 1) 0 = firstF nm kd l i (ob l i).ss.length := by
  unfold firstF
  rw [show min l.length (i + 1) = i + 1 by omega]
  have key : fstN (hitO nm kd l (i + 1) 0) (i + 1) = fstN (hitO nm kd l i (ob l i).ss.length) (i + 1) := fst_congr (fun j hj => hitO_other _ _ _ (by
    unfold upTo
    rw [if_neg (by omega)]
    split
    · next h => subst h; omega
    · rfl))
  by_cases h : i + 1 < l.length
  · rw [show min l.length (i + 1 + 1) = i + 1 + 1 by omega, fstN, key]
    cases fstN (hitO nm kd l i (ob l i).ss.length) (i + 1) with
    | some b => rfl
    | none =>
      show hitO nm kd l (i + 1) 0 (i + 1) = none
      unfold hitO
      rw [show upTo l (i + 1) 0 (i + 1) = 0 by unfold upTo; rw [if_pos rfl]; omega]
      rfl
  · rw [show min l.length (i + 1 + 1) = i + 1 by omega, key]
theorem firstF_zero (nm : ByteArray) (kd : Int) (l : List Ob) : firstF nm kd l 0 0 = none := by
  unfold firstF
  refine fst_none fun j hj => ?_
  obtain rfl : j = 0 := by omega
  unfold hitO
  rw [show upTo l 0 0 0 = 0 by unfold upTo; rw [if_pos rfl]; omega]
  rfl
/-- What a name stands for below a place, and the kind of the symbol that says so. -/
def seenF (nm : ByteArray) (l : List Ob) (o s : Nat) : Option ((Nat × Int) × Int) := match firstF nm 1 l o s with
  | some x => some (x, 1)
  | none => (firstF nm 2 l o s).map fun x => (x, 2)
def mI : Option ((Nat × Int) × Int) → Nat
  | some x => x.1.1
  | none => 0
def mA : Option ((Nat × Int) × Int) → Int
  | some x => x.1.2
  | none => 0
def mK : Option ((Nat × Int) × Int) → Int
  | some x => x.2
  | none => 0
theorem seen_zero (nm : ByteArray) (l : List Ob) : seenF nm l 0 0 = none := by
  unfold seenF
  rw [firstF_zero, firstF_zero]
  rfl
theorem seen_next (nm : ByteArray) (l : List Ob) {i : Nat} (hi : i < l.length) : seenF nm l (i + 1) 0 = seenF nm l i (ob l i).ss.length := by
  unfold seenF
  rw [firstF_next _ _ _ hi, firstF_next _ _ _ hi]
theorem seen_kind (nm : ByteArray) (l : List Ob) (o s : Nat) : (mK (seenF nm l o s) == 1) = (firstF nm 1 l o s).isSome := by
  unfold seenF
  cases firstF nm 1 l o s with
  | some x => rfl
  | none => cases firstF nm 2 l o s <;> rfl
theorem seen_find (nm : ByteArray) (l : List Ob) : (seenF nm l l.length 0).isSome = (findF nm l).isSome ∧ mI (seenF nm l l.length 0) = dfI (findF nm l) ∧ mA (seenF nm l l.length 0) = dfA (findF nm l) := by
  unfold seenF findF
  cases firstF nm 1 l l.length 0 with
  | some x => exact ⟨rfl, rfl, rfl⟩
  | none => cases firstF nm 2 l l.length 0 <;> exact ⟨rfl, rfl, rfl⟩
/-- A symbol of another name. -/
theorem seen_other {nm : ByteArray} {l : List Ob} {i k : Nat} (hi : i < l.length) (hk : k < (ob l i).ss.length) (h : ((sName (ob l i).ss k).toList == nm.toList) = false) : seenF nm l i (k + 1) = seenF nm l i k := by
  unfold seenF
  rw [firstF_step nm 1 l hi hk, firstF_step nm 2 l hi hk, hitS_no (kd := 1) (Or.inl h), hitS_no (kd := 2) (Or.inl h)]
  cases firstF nm 1 l i k with
  | some x => rfl
  | none => cases firstF nm 2 l i k <;> rfl
/-- What is kept, once a symbol was met. -/
def learnV (v : Option ((Nat × Int) × Int)) (i : Nat) (at_ kd : Int) : Option ((Nat × Int) × Int) := if (kd == 1) = true ∨ (kd == 2) = true ∧ v.isSome = false then some ((i, at_), kd) else v
theorem seen_same {nm : ByteArray} {l : List Ob} {i k : Nat} (hi : i < l.length) (hk : k < (ob l i).ss.length) (h : ((sName (ob l i).ss k).toList == nm.toList) = true) (hg : (sKind (ob l i).ss k == 1) = true → (firstF nm 1 l i k).isSome = false) : seenF nm l i (k + 1) = learnV (seenF nm l i k) i (sAt (ob l i).ss k) (sKind (ob l i).ss k) := by
  unfold seenF learnV
  rw [firstF_step nm 1 l hi hk, firstF_step nm 2 l hi hk]
  cases h1 : (sKind (ob l i).ss k == 1) with
  | true =>
    have := hg h1
    rw [hitS_yes h h1]
    cases hf : firstF nm 1 l i k with
    | some x => rw [hf] at this; cases this
    | none =>
      rw [if_pos (Or.inl rfl)]
      have e : sKind (ob l i).ss k = 1 := by simpa using h1
      rw [e]
      rfl
  | false =>
    rw [hitS_no (kd := 1) (Or.inr h1)]
    cases hf : firstF nm 1 l i k with
    | some x =>
      rw [if_neg (by simp)]
    | none =>
      cases h2 : (sKind (ob l i).ss k == 2) with
      | true =>
        rw [hitS_yes h h2]
        have e : sKind (ob l i).ss k = 2 := by simpa using h2
        cases hf2 : firstF nm 2 l i k with
        | some x => rw [if_neg (by simp)]; rfl
        | none => rw [if_pos (by simp), e]; rfl
      | false =>
        rw [hitS_no (kd := 2) (Or.inr h2), if_neg (by simp)]
        cases hf2 : firstF nm 2 l i k <;> rfl
/-- A map's meaning with one name's turned. -/
def putF (f : ByteArray → Option ((Nat × Int) × Int)) (s : ByteArray) (v : Option ((Nat × Int) × Int)) (x : ByteArray) : Option ((Nat × Int) × Int) := if (s.toList == x.toList) = true then v else f x
theorem bytes_eq {a b : ByteArray} (h : (a.toList == b.toList) = true) : a = b := by
  have h : a.toList = b.toList := by simpa using h
  rw [ByteArray.toList_eq, ByteArray.toList_eq] at h
  cases a; cases b; simp at h; congr
/-- All names, one symbol more. -/
theorem seen_put {l : List Ob} {i k : Nat} {f : ByteArray → Option ((Nat × Int) × Int)} (hi : i < l.length) (hk : k < (ob l i).ss.length) (hf : ∀ x, f x = seenF x l i k) (ht : twS l i k = none) (x : ByteArray) : putF f (sName (ob l i).ss k) (learnV (f (sName (ob l i).ss k)) i (sAt (ob l i).ss k) (sKind (ob l i).ss k)) x = seenF x l i (k + 1) := by
  unfold putF
  cases hx : ((sName (ob l i).ss k).toList == x.toList) with
  | false =>
    rw [if_neg (by simp), seen_other hi hk hx]
    exact hf x
  | true =>
    rw [if_pos rfl]
    have e := bytes_eq hx
    rw [seen_same hi hk hx, hf, e]
    intro hg
    unfold twS at ht
    split at ht
    · cases ht
    · next hn =>
      cases hs : (firstF x 1 l i k).isSome with
      | false => rfl
      | true => rw [e] at hn; exact absurd ⟨hg, hs⟩ hn
theorem learn_no {v : Option ((Nat × Int) × Int)} {i : Nat} {a kd : Int} (h1 : (kd == 1) = false) (h2 : (kd == 2) = false ∨ v.isSome = true) : learnV v i a kd = v := by
  unfold learnV
  rw [if_neg]
  rintro (h | ⟨h, h'⟩)
  · rw [h1] at h; cases h
  · rcases h2 with h2 | h2
    · rw [h2] at h; cases h
    · rw [h2] at h'; cases h'
theorem learn_yes {v : Option ((Nat × Int) × Int)} {i : Nat} {a kd : Int} (h : (kd == 1) = true ∨ (kd == 2) = true ∧ v.isSome = false) : learnV v i a kd = some ((i, a), kd) := by
  unfold learnV
  rw [if_pos h]
theorem putF_same (f : ByteArray → Option ((Nat × Int) × Int)) (s x : ByteArray) : putF f s (f s) x = f x := by
  unfold putF
  split
  · next h => rw [bytes_eq h]
  · rfl
/-- What was found stays found. -/
theorem firstF_row {nm : ByteArray} {kd : Int} {l : List Ob} {i j : Nat} {x : Nat × Int} (hi : i < l.length) (h : firstF nm kd l i j = some x) : ∀ d, j + d ≤ (ob l i).ss.length → firstF nm kd l i (j + d) = some x
  | 0, _ => h
  | d + 1, hd => by rw [show j + (d + 1) = j + d + 1 by omega, firstF_step nm kd l hi (by omega), firstF_row hi h d (by omega)]
theorem firstF_objs {nm : ByteArray} {kd : Int} {l : List Ob} {i : Nat} {x : Nat × Int} (h : firstF nm kd l i 0 = some x) : ∀ d, i + d ≤ l.length → firstF nm kd l (i + d) 0 = some x
  | 0, _ => h
  | d + 1, hd => by
    rw [show i + (d + 1) = i + d + 1 by omega, firstF_next nm kd l (by omega)]
    have := firstF_row (by omega) (firstF_objs h d (by omega)) (ob l (i + d)).ss.length (by omega)
    rwa [Nat.zero_add] at this
theorem firstF_full {nm : ByteArray} {kd : Int} {l : List Ob} {i j : Nat} {x : Nat × Int} (hi : i < l.length) (hj : j ≤ (ob l i).ss.length) (h : firstF nm kd l i j = some x) : firstF nm kd l l.length 0 = some x := by
  have a := firstF_row hi h ((ob l i).ss.length - j) (by omega)
  rw [show j + ((ob l i).ss.length - j) = (ob l i).ss.length by omega, ← firstF_next nm kd l hi] at a
  have b := firstF_objs a (l.length - (i + 1)) (by omega)
  rwa [show i + 1 + (l.length - (i + 1)) = l.length by omega] at b
theorem firstF_same {nm : ByteArray} {kd : Int} {l : List Ob} {i k : Nat} (hi : i < l.length) (hk : k < (ob l i).ss.length) (h : hitS nm kd (ob l i).ss k = none) (h0 : firstF nm kd l i k = none) : firstF nm kd l i (k + 1) = none := by
  rw [firstF_step nm kd l hi hk, h0, h]
  rfl
/-- Find's own state. -/
theorem find_put {nm : ByteArray} {l : List Ob} {i k : Nat} {f : ByteArray → Option ((Nat × Int) × Int)} (hi : i < l.length) (hk : k < (ob l i).ss.length) (hn : ((sName (ob l i).ss k).toList == nm.toList) = true) (hf : f nm = seenF nm l i k) (h1 : firstF nm 1 l i k = none) : putF f (sName (ob l i).ss k) (learnV (f (sName (ob l i).ss k)) i (sAt (ob l i).ss k) (sKind (ob l i).ss k)) nm = seenF nm l i (k + 1) := by
  unfold putF
  rw [if_pos hn, bytes_eq hn, hf, seen_same hi hk hn (fun _ => by rw [h1]; rfl)]
theorem find_hit {nm : ByteArray} {l : List Ob} {i k : Nat} (hi : i < l.length) (hk : k < (ob l i).ss.length) (hn : ((sName (ob l i).ss k).toList == nm.toList) = true) (h1 : firstF nm 1 l i k = none) (hg : (sKind (ob l i).ss k == 1) = true) : firstF nm 1 l i (k + 1) = some (i, sAt (ob l i).ss k) := by
  rw [firstF_step nm 1 l hi hk, h1, hitS_yes hn hg]
  rfl
/-- What the map tells is what the name stands for. -/
def Tells (v : Option ((Nat × Int) × Int)) (x : Option (Nat × Int)) : Prop := v.isSome = x.isSome ∧ mI v = dfI x ∧ mA v = dfA x
theorem tells_hit {nm : ByteArray} {l : List Ob} {i k : Nat} (hi : i < l.length) (hk : k < (ob l i).ss.length) (hn : ((sName (ob l i).ss k).toList == nm.toList) = true) (h1 : firstF nm 1 l i k = none) (hg : (sKind (ob l i).ss k == 1) = true) : Tells (seenF nm l i (k + 1)) (findF nm l) := by
  have a := find_hit hi hk hn h1 hg
  have b := firstF_full hi (by omega) a
  unfold seenF findF
  rw [a, b]
  exact ⟨rfl, rfl, rfl⟩
theorem tells_full (nm : ByteArray) (l : List Ob) : Tells (seenF nm l l.length 0) (findF nm l) := seen_find nm l


end Go.Proofs.YthpkekpojhmaaaaGreatDoor

namespace Go.Proofs.YthpkekpojhmaaaaGreatDoor
open Go.RowKit

open Go.Maps Go.WideMaps
/-- How a meaning reads. -/
def meanElem (v : Value) : Option (DataW Unit × List MemPlace) := match v with
  | .agg xs => match xs.toList with
    | [.int .i64 a, .int .i64 b, .int .i8 k] => some (.agg [.lit (.int .i64 a), .lit (.int .i64 b), .lit (.int .i8 k)], [])
    | _ => none
  | _ => none
theorem mean_inv {v : Value} {z : DataW Unit × List MemPlace} (h : meanElem v = some z) : ∃ a b k : Int, v = .agg #[.int .i64 a, .int .i64 b, .int .i8 k] ∧ z = (.agg [.lit (.int .i64 a), .lit (.int .i64 b), .lit (.int .i8 k)], []) := by
  unfold meanElem at h
  split at h
  · next xs =>
    split at h
    · next a b k e1 =>
      cases h
      refine ⟨a, b, k, ?_, rfl⟩
      have x1 : xs = #[.int .i64 a, .int .i64 b, .int .i8 k] := Array.ext' (by rw [e1])
      rw [x1]
    · cases h
  · cases h
def mVal (v : Option ((Nat × Int) × Int)) : Value := .agg #[.int .i64 (mI v), .int .i64 (mA v), .int .i8 (mK v)]
def mDat (v : Option ((Nat × Int) × Int)) : DataW Unit := .agg [.lit (.int .i64 (mI v)), .lit (.int .i64 (mA v)), .lit (.int .i8 (mK v))]
theorem mean_val (v : Option ((Nat × Int) × Int)) : meanElem (mVal v) = some (mDat v, []) := rfl
theorem mean_of {u : Value} {v : Option ((Nat × Int) × Int)} {ps : List MemPlace} (h : meanElem u = some (mDat v, ps)) : u = mVal v := by
  obtain ⟨a, b, k, rfl, e⟩ := mean_inv h
  unfold mDat at e
  injection e with e1 e2
  injection e1 with e1
  injection e1 with a1 e1
  injection e1 with b1 e1
  injection e1 with k1 e1
  injection a1 with a1; injection a1 with _ a1
  injection b1 with b1; injection b1 with _ b1
  injection k1 with k1; injection k1 with _ k1
  unfold mVal
  rw [a1, b1, k1]
theorem law9m : Keyed Tryz.prog 9 := string_keyed Tryz.underlying9
theorem zeroM (w : World) : (zeroValue 134).run Tryz.prog w = .ok (mVal none) w := by kernel_rfl
/-- A map of meanings, of at most n names. -/
def Knows (w : World) (b n : Nat) (f : ByteArray → Option ((Nat × Int) × Int)) : Prop := ∃ D : DataW Unit, w.ownsMap Tryz.prog 9 meanElem b n D ∧ ∀ s : ByteArray, Maps.has D (.string s.data.toList) = (f s).isSome ∧ D.atKey (.string s.data.toList) (mDat none) = mDat (f s)
theorem Knows.made (w : World) : Knows (w.alloc (.map #[] 0)) w.heap.size 0 (fun _ => none) := ⟨_, World.ownsMap_made w Tryz.prog 9 meanElem, fun _s => ⟨rfl, rfl⟩⟩
theorem Knows.lt {w : World} {b n : Nat} {f : ByteArray → Option ((Nat × Int) × Int)} (h : Knows w b n f) : b < w.heap.size := by
  obtain ⟨D, h, _⟩ := h
  exact h.lt
theorem Knows.below {w w1 : World} {B b n : Nat} {f : ByteArray → Option ((Nat × Int) × Int)} (h : Knows w b n f) (hb : Below B w w1) (hB : b < B) : Knows w1 b n f := by
  obtain ⟨D, ⟨es, clock, h1, h2⟩, h3⟩ := h
  exact ⟨D, ⟨es, clock, by rw [hb.block b hB]; exact h1, h2⟩, h3⟩
theorem Knows.keep {w w1 : World} {b n : Nat} {f : ByteArray → Option ((Nat × Int) × Int)} (h : Knows w b n f) (hb : Below w.heap.size w w1) : Knows w1 b n f := h.below hb h.lt
theorem Knows.fit {w : World} {b n : Nat} {f g : ByteArray → Option ((Nat × Int) × Int)} (h : Knows w b n f) (e : ∀ x, f x = g x) : Knows w b n g := by
  obtain ⟨D, h, h3⟩ := h
  exact ⟨D, h, fun s => by rw [← e s]; exact h3 s⟩
theorem Knows.more {w : World} {b n m : Nat} {f : ByteArray → Option ((Nat × Int) × Int)} (h : Knows w b n f) (hn : n ≤ m) : Knows w b m f := by
  obtain ⟨D, h, h3⟩ := h
  exact ⟨D, h.mono hn, h3⟩
theorem key9 {s : ByteArray} (hs : s.size ≤ 140737488355328) : keyOf Tryz.prog 9 (.string s) = some (.string s.data.toList) := keyOf_string_mk Tryz.underlying9 (by unfold maxLen; omega)
theorem Knows.look_ok {w : World} {b n : Nat} {f : ByteArray → Option ((Nat × Int) × Int)} (h : Knows w b n f) {s : ByteArray} (hs : s.size ≤ 140737488355328) : (Instr.lookup 121 (.map (some b)) (.string s) true).run Tryz.prog w = .ok (.tuple #[mVal (f s), .bool (f s).isSome]) w := by
  obtain ⟨D, h, h3⟩ := h
  obtain ⟨v, ps, hrun, hv⟩ := h.look_ok law9m Tryz.underlying121 (zeroM w) (mean_val none) (key9 hs)
  rw [(h3 s).2] at hv
  rw [hrun, mean_of hv, (h3 s).1]
theorem Knows.look {w : World} {b n : Nat} {f : ByteArray → Option ((Nat × Int) × Int)} (h : Knows w b n f) {s : ByteArray} (hs : s.size ≤ 140737488355328) : (Instr.lookup 121 (.map (some b)) (.string s) false).run Tryz.prog w = .ok (mVal (f s)) w := by
  obtain ⟨D, h, h3⟩ := h
  obtain ⟨v, ps, hrun, hv⟩ := h.lookup law9m Tryz.underlying121 (zeroM w) (mean_val none) (key9 hs)
  rw [(h3 s).2] at hv
  rw [hrun, mean_of hv]
theorem Knows.put {w : World} {b n : Nat} {f : ByteArray → Option ((Nat × Int) × Int)} (h : Knows w b n f) (hn : n < 1000000000000) {s : ByteArray} (hs : s.size ≤ 140737488355328) (x : (Nat × Int) × Int) : ∃ w', (Instr.mapUpdate 121 (.map (some b)) (.string s) (mVal (some x))).run Tryz.prog w = .ok () w' ∧ Knows w' b (n + 1) (putF f s (some x)) ∧ w.grownBy w' (some b) := by
  obtain ⟨D, h, h3⟩ := h
  obtain ⟨w', hrun, h1, hg⟩ := h.update law9m Tryz.underlying121 (by unfold maxLen; omega) (key9 hs) (mean_val (some x))
  refine ⟨w', hrun, ⟨_, h1, fun y => ?_⟩, hg⟩
  unfold putF
  cases hy : (s.toList == y.toList) with
  | true =>
    rw [bytes_eq hy, if_pos rfl]
    exact ⟨Maps.has_put_same h.isMap (by simp [WideAt.IsKeyLit]) _, Maps.atKey_put_same h.isMap (by simp [WideAt.IsKeyLit]) _ _⟩
  | false =>
    rw [if_neg (by simp)]
    have hne : (Lit.string y.data.toList) ≠ .string s.data.toList := fun e => by
      injection e with e
      have : y.toList = s.toList := by rw [ByteArray.toList_eq, ByteArray.toList_eq]; exact e
      rw [this] at hy
      simp at hy
    rw [Maps.has_put_other hne, Maps.atKey_put_other hne]
    exact h3 y
/-- The same at the operation. -/
theorem wpList_look_ok (w : World) {ops : Array Oper} {rest : List Oper} {o : Oper} {a : Act} {Q : Exit → Act → World → Prop} (hg : o.guard = none) (m x : Operand) (hop : o.op = Op.lookup 121 m x true)
    (b n : Nat) (f : ByteArray → Option ((Nat × Int) × Int)) (hk : Knows w b n f) (s : ByteArray) (hs : s.size ≤ 140737488355328) (hm : a.eval m = .map (some b)) (hx : a.eval x = .string s)
    (hK : wpList Tryz.prog ops Q rest (a.put o.dst (.tuple #[mVal (f s), .bool (f s).isSome])) w) : wpList Tryz.prog ops Q (o :: rest) a w := by
  refine wpList_plain hg fun K' hK' => ?_
  have hrun := hk.look_ok hs
  unfold Oper.wp
  simp [execOp, hop, hm, hx, hrun, Result.andThen]
  exact hK' _ _ hK
theorem wpList_look_put (w : World) {ops : Array Oper} {rest : List Oper} {o : Oper} {a : Act} {Q : Exit → Act → World → Prop} (hg : o.guard = none) (m x v : Operand) (hop : o.op = Op.mapUpdate 121 m x v)
    (b n : Nat) (f : ByteArray → Option ((Nat × Int) × Int)) (hk : Knows w b n f) (hn : n < 1000000000000) (s : ByteArray) (hs : s.size ≤ 140737488355328) (y : (Nat × Int) × Int) (hm : a.eval m = .map (some b)) (hx : a.eval x = .string s) (hv : a.eval v = mVal (some y))
    (hK : ∀ w', Knows w' b (n + 1) (putF f s (some y)) → w.grownBy w' (some b) → wpList Tryz.prog ops Q rest (a.put o.dst undef) w') : wpList Tryz.prog ops Q (o :: rest) a w := by
  refine wpList_plain hg fun K' hK' => ?_
  obtain ⟨w', hrun, h1, h2⟩ := hk.put hn hs y
  unfold Oper.wp
  simp [execOp, hop, hm, hx, hv, hrun, Result.andThen]
  exact hK' _ _ (hK w' h1 h2)


end Go.Proofs.YthpkekpojhmaaaaGreatDoor

namespace Go.Proofs.YthpkekpojhmaaaaGreatDoor
open Go.RowKit

open Go.Maps Go.WideMaps
theorem grown_alloc {w w1 : World} {b : Nat} (h : w.grownBy w1 (some b)) (o : Obj) : w.grownBy (w1.alloc o) (some b) := h.trans (World.grownBy_alloc w1 o _)
set_option maxHeartbeats 4000000 in
set_option maxRecDepth 100000 in
theorem learn_any (b n : Nat) (f : ByteArray → Option ((Nat × Int) × Int)) (nm : ByteArray) (kd at_ : Int) (i : Nat) (w : World) (hk : Knows w b n f) (hn : n < 1000000000000) (hs : nm.size ≤ 140737488355328) :
    Calls Tryz.prog 74 #[.map (some b), .int .i64 i, .agg #[.string nm, .int .i8 kd, .int .i64 at_]] w fun e w' => e = .returned (.tuple #[]) ∧ Knows w' b (n + 1) (putF f nm (learnV (f nm) i at_ kd)) ∧ w.grownBy w' (some b) := by
  have HK : Hid (Knows (w.alloc (.cells #[.string nm, .int .i8 kd, .int .i64 at_] 131)) b n f) := hk.keep (lb_alloc (Below.refl _ _) _)
  have HK1 : Hid (Knows ((w.alloc (.cells #[.string nm, .int .i8 kd, .int .i64 at_] 131)).alloc (.cells #[.int .i64 (mI (f nm)), .int .i64 (mA (f nm)), .int .i8 (mK (f nm))] 134)) b n f) := HK.out.keep (lb_alloc (Below.refl _ _) _)
  have HG : Hid (w.grownBy ((w.alloc (.cells #[.string nm, .int .i8 kd, .int .i64 at_] 131)).alloc (.cells #[.int .i64 (mI (f nm)), .int .i64 (mA (f nm)), .int .i8 (mK (f nm))] 134)) (some b)) := (World.grownBy_alloc w _ _).trans (World.grownBy_alloc _ _ _)
  clear hk
  go_enter Tryz.func74, Tryz.ntmps74
  cases h1 : (kd == 1) with
  | true =>
    go_wp2_with (first | (at_lookup; refine wpList_look_ok _ rfl _ _ rfl b n f HK.out nm hs rfl rfl ?_; unfold mVal) | (at_mapUpdate; refine wpList_look_put _ rfl _ _ _ rfl b n f HK1.out hn nm hs ((i, at_), kd) rfl rfl rfl ?_; intro w2 hk2 hg2; have HK2 : Hid (Knows w2 b (n + 1) (putF f nm (some ((i, at_), kd)))) := hk2; have HG2 : Hid (w.grownBy w2 (some b)) := HG.out.trans hg2; clear hk2 hg2))
    refine bodyPost_end (v := .tuple #[]) (by simp [results, Tryz.results74, go_sem]) rfl ?_
    exact ⟨rfl, by rw [learn_yes (Or.inl h1)]; exact HK2.out, HG2.out⟩
  | false =>
    cases h2 : (kd == 2) with
    | true =>
      cases h3 : (f nm).isSome with
      | false =>
        go_wp2_with (first | ((at_lookup; refine wpList_look_ok _ rfl _ _ rfl b n f HK.out nm hs rfl rfl ?_; unfold mVal); rw [h3]) | (at_mapUpdate; refine wpList_look_put _ rfl _ _ _ rfl b n f HK1.out hn nm hs ((i, at_), kd) rfl rfl rfl ?_; intro w2 hk2 hg2; have HK2 : Hid (Knows w2 b (n + 1) (putF f nm (some ((i, at_), kd)))) := hk2; have HG2 : Hid (w.grownBy w2 (some b)) := HG.out.trans hg2; clear hk2 hg2))
        refine bodyPost_end (v := .tuple #[]) (by simp [results, Tryz.results74, go_sem]) rfl ?_
        exact ⟨rfl, by rw [learn_yes (Or.inr ⟨h2, h3⟩)]; exact HK2.out, HG2.out⟩
      | true =>
        go_wp2_with ((at_lookup; refine wpList_look_ok _ rfl _ _ rfl b n f HK.out nm hs rfl rfl ?_; unfold mVal); rw [h3])
        refine bodyPost_end (v := .tuple #[]) (by simp [results, Tryz.results74, go_sem]) rfl ?_
        exact ⟨rfl, by rw [learn_no h1 (Or.inr h3)]; exact (HK1.out.fit fun x => (putF_same f nm x).symm).more (Nat.le_succ _), HG.out⟩
    | false =>
      go_wp2_with (at_lookup; refine wpList_look_ok _ rfl _ _ rfl b n f HK.out nm hs rfl rfl ?_; unfold mVal)
      refine bodyPost_end (v := .tuple #[]) (by simp [results, Tryz.results74, go_sem]) rfl ?_
      exact ⟨rfl, by rw [learn_no h1 (Or.inl h2)]; exact (HK1.out.fit fun x => (putF_same f nm x).symm).more (Nat.le_succ _), HG.out⟩


end Go.Proofs.YthpkekpojhmaaaaGreatDoor

namespace Go.Proofs.YthpkekpojhmaaaaGreatDoor
open Go.RowKit

theorem res_keep {w0 w1 : World} {g : Nat} (h : w0.heap[g]? = some (.cells #[.int .i64 0, .int .i64 0] 106 (0, 0))) (hb : Below w0.heap.size w0 w1) : w1.cell? ⟨g, 0, none⟩ = some (.int .i64 0) ∧ w1.cell? ⟨g, 1, none⟩ = some (.int .i64 0) ∧ w1.frozen? ⟨g, 0, none⟩ = false ∧ w1.frozen? ⟨g, 1, none⟩ = false := by
  have hg : g < w0.heap.size := by
    by_cases hg : g < w0.heap.size
    · exact hg
    · rw [Array.getElem?_eq_none (by omega)] at h; cases h
  have h1 : w1.heap[g]? = some (.cells #[.int .i64 0, .int .i64 0] 106 (0, 0)) := by rw [hb.block g hg]; exact h
  refine ⟨?_, ?_, ?_, ?_⟩ <;> simp [World.cell?, World.frozen?, h1]
theorem ret2D {a b : Nat} {c d : Int} {x y : Bool} (h1 : a = b) (h2 : c = d) (h3 : x = y) : Ending.returned (.tuple #[.agg #[.int .i64 a, .int .i64 c], .bool x]) = .returned (.tuple #[.agg #[.int .i64 b, .int .i64 d], .bool y]) := by rw [h1, h2, h3]
set_option maxHeartbeats 4000000 in
set_option maxRecDepth 100000 in
theorem reffirst_any (A : Option Addr) (ca : Nat) (q : Nat → Pl) (l : List Ob) (nm : ByteArray) (kd : Int) (o s : Nat) (w : World) (hA : ObsIn w A q l) (ho : o ≤ 64) (hs : s ≤ 1048576) :
    Calls Tryz.prog 98 #[.slice A l.length ca, .string nm, .int .i8 kd, .int .i64 o, .int .i64 s] w (DefP (firstF nm kd l o s) w) := by
  obtain ⟨w0, hw0⟩ : ∃ w0, w0 = w.alloc (.cells #[.int .i64 0, .int .i64 0] 106) := ⟨_, rfl⟩
  have hb0 : Below w.heap.size w w0 := by rw [hw0]; exact lb_alloc (Below.refl _ _) _
  have HZ : Hid (w0.heap[w.heap.size]? = some (.cells #[.int .i64 0, .int .i64 0] 106 (0, 0))) := by rw [hw0]; show (w.heap.push _)[w.heap.size]? = _; simp
  have HA : Hid (ObsIn w0 A q l) := hA.keep hb0
  have HB0 : Hid (Below w.heap.size w w0) := hb0
  have hf := hA.few
  clear hA hb0
  go_enter Tryz.func98, Tryz.ntmps98
  go_wp2
  rw [← hw0]
  go_loopw [12] (fun i wr => ∃ k : Nat, i = .int .i64 k ∧ k ≤ min l.length (o + 1) ∧ Hid (∀ j, j < k → hitO nm kd l o s j = none) ∧ Hid (Below w0.heap.size w0 wr)) (fun i _ => l.length - (intOf i).toNat)
  case atStart => exact ⟨0, rfl, Nat.zero_le _, fun j hj => absurd hj (Nat.not_lt_zero _), Below.refl _ _⟩
  case round =>
    obtain ⟨k, rfl, hk, HN, HB⟩ := hrel
    by_cases hkl : k < l.length
    · have hkl' : (k : Int) < (l.length : Int) := by omega
      by_cases hko : k ≤ o
      · have hko' : (k : Int) ≤ (o : Int) := by omega
        have hlt : k < min l.length (o + 1) := by omega
        obtain ⟨a, ea, -⟩ := HA.out.cells k hkl
        subst ea
        go_wp2
        go_loopw [13] (fun i wr => ∃ j : Nat, i = .int .i64 j ∧ j ≤ upTo l o s k ∧ Hid (∀ m, m < j → hitS nm kd (ob l k).ss m = none) ∧ Hid (Below w0.heap.size w0 wr)) (fun i _ => (ob l k).ss.length - (intOf i).toNat)
        case atStart => exact ⟨0, rfl, Nat.zero_le _, fun j hj => absurd hj (Nat.not_lt_zero _), HB⟩
        case round =>
          clear HB
          obtain ⟨j, rfl, hj, HS, HB1⟩ := hrel
          obtain ⟨b, eb, x0, x1, x2, x3, x4, x5⟩ := HA.out.cells.six HB1.out k hkl
          obtain rfl := Option.some.inj eb
          have hss := (HA.out.each k hkl).hs
          clear eb x0 x1 x2 x3 x5
          by_cases hjl : j < (ob l k).ss.length
          · have hjl' : (j : Int) < ((ob l k).ss.length : Int) := by omega
            by_cases hke : k = o
            · subst hke
              by_cases hjs : s ≤ j
              · have hjs' : (s : Int) ≤ (j : Int) := by omega
                have HN2 : Hid _ := fst_step HN.out (hitO_no (o := k) (s := s) HS.out (by unfold upTo; rw [if_pos rfl]; omega))
                go_wp2
                go_roundw
                case rel => exact ⟨k + 1, by go_num, by omega, HN2, HB1⟩
                case measure => simp [intOf]; omega
              · have hjs' : ¬ (s : Int) ≤ (j : Int) := by omega
                have hup : j < upTo l k s k := by unfold upTo; rw [if_pos rfl]; omega
                obtain ⟨a3, e3, s0, s1, s2⟩ := (HA.out.each k hkl).sy j hjl
                have t0 := lkeep HB1.out s0
                have t1 : wr.cell? ⟨(a3.add (j * 3)).block, (a3.add (j * 3)).off + 1, none⟩ = some (.int .i8 (sKind (ob l k).ss j)) := lkeep HB1.out s1
                have t2 : wr.cell? ⟨(a3.add (j * 3)).block, (a3.add (j * 3)).off + 2, none⟩ = some (.int .i64 (sAt (ob l k).ss j)) := lkeep HB1.out s2
                rw [e3] at x4
                clear s0 s1 s2 e3
                cases hn : ((sName (ob l k).ss j).toList == nm.toList)
                · have HS2 : Hid _ := fst_step HS.out (hitS_no (kd := kd) (Or.inl hn))
                  go_wp2
                  go_roundw
                  case rel => exact ⟨j + 1, by go_num, by omega, HS2, lb_alloc HB1.out _⟩
                  case measure => simp [intOf]; omega
                cases hd : (sKind (ob l k).ss j == kd)
                · have HS2 : Hid _ := fst_step HS.out (hitS_no (nm := nm) (Or.inr hd))
                  go_wp2
                  go_roundw
                  case rel => exact ⟨j + 1, by go_num, by omega, HS2, lb_alloc HB1.out _⟩
                  case measure => simp [intOf]; omega
                have HX : Hid (firstF nm kd l _ s = some (k, sAt (ob l k).ss j)) := fst_hit HN.out (hitO_yes HS.out (hitS_yes hn hd) hup) hlt
                have hbz := res_keep (w1 := (wr.alloc (.cells #[.string (sName (ob l k).ss j), .int .i8 (sKind (ob l k).ss j), .int .i64 (sAt (ob l k).ss j)] 131))) HZ.out (lb_alloc HB1.out _)
                obtain ⟨z0, z1, y0, y1⟩ := hbz
                have HBz : Hid (Below w.heap.size w (wr.alloc (.cells #[.string (sName (ob l k).ss j), .int .i8 (sKind (ob l k).ss j), .int .i64 (sAt (ob l k).ss j)] 131))) := lb_trans HB0.out (lb_alloc HB1.out _)
                go_wp2
                refine bodyPost_ret (v := .tuple #[.agg #[.int .i64 (k : Nat), .int .i64 (sAt (ob l k).ss j)], .bool true]) (by simp [results, Tryz.results98, go_sem, z0, z1]) rfl ⟨?_, (HBz.out.setCell (Nat.le_refl _) _).setCell (Nat.le_refl _) _⟩
                rw [HX.out]; rfl
            · have hke' : ((k : Int) == (o : Int)) = false := by simpa using (by omega : ¬ (k : Int) = (o : Int))
              have hup : j < upTo l o s k := by unfold upTo; rw [if_neg hke]; exact hjl
              obtain ⟨a3, e3, s0, s1, s2⟩ := (HA.out.each k hkl).sy j hjl
              have t0 := lkeep HB1.out s0
              have t1 : wr.cell? ⟨(a3.add (j * 3)).block, (a3.add (j * 3)).off + 1, none⟩ = some (.int .i8 (sKind (ob l k).ss j)) := lkeep HB1.out s1
              have t2 : wr.cell? ⟨(a3.add (j * 3)).block, (a3.add (j * 3)).off + 2, none⟩ = some (.int .i64 (sAt (ob l k).ss j)) := lkeep HB1.out s2
              rw [e3] at x4
              clear s0 s1 s2 e3
              cases hn : ((sName (ob l k).ss j).toList == nm.toList)
              · have HS2 : Hid _ := fst_step HS.out (hitS_no (kd := kd) (Or.inl hn))
                go_wp2
                go_roundw
                case rel => exact ⟨j + 1, by go_num, by omega, HS2, lb_alloc HB1.out _⟩
                case measure => simp [intOf]; omega
              cases hd : (sKind (ob l k).ss j == kd)
              · have HS2 : Hid _ := fst_step HS.out (hitS_no (nm := nm) (Or.inr hd))
                go_wp2
                go_roundw
                case rel => exact ⟨j + 1, by go_num, by omega, HS2, lb_alloc HB1.out _⟩
                case measure => simp [intOf]; omega
              have HX : Hid (firstF nm kd l _ s = some (k, sAt (ob l k).ss j)) := fst_hit HN.out (hitO_yes HS.out (hitS_yes hn hd) hup) hlt
              have hbz := res_keep (w1 := (wr.alloc (.cells #[.string (sName (ob l k).ss j), .int .i8 (sKind (ob l k).ss j), .int .i64 (sAt (ob l k).ss j)] 131))) HZ.out (lb_alloc HB1.out _)
              obtain ⟨z0, z1, y0, y1⟩ := hbz
              have HBz : Hid (Below w.heap.size w (wr.alloc (.cells #[.string (sName (ob l k).ss j), .int .i8 (sKind (ob l k).ss j), .int .i64 (sAt (ob l k).ss j)] 131))) := lb_trans HB0.out (lb_alloc HB1.out _)
              go_wp2
              refine bodyPost_ret (v := .tuple #[.agg #[.int .i64 (k : Nat), .int .i64 (sAt (ob l k).ss j)], .bool true]) (by simp [results, Tryz.results98, go_sem, z0, z1]) rfl ⟨?_, (HBz.out.setCell (Nat.le_refl _) _).setCell (Nat.le_refl _) _⟩
              rw [HX.out]; rfl
          · have hjl' : ¬ (j : Int) < ((ob l k).ss.length : Int) := by omega
            have HN2 : Hid _ := fst_step HN.out (hitO_no (o := o) (s := s) HS.out (by unfold upTo; split <;> omega))
            go_wp2
            go_roundw
            case rel => exact ⟨k + 1, by go_num, by omega, HN2, HB1⟩
            case measure => simp [intOf]; omega
      · have hko' : ¬ (k : Int) ≤ (o : Int) := by omega
        have HX : Hid (firstF nm kd l o s = none) := fst_none (fun j hj => HN.out j (by omega))
        have hbz := res_keep (w1 := wr) HZ.out HB.out
        obtain ⟨z0, z1, y0, y1⟩ := hbz
        have HBz : Hid (Below w.heap.size w wr) := lb_trans HB0.out HB.out
        go_wp2
        refine bodyPost_ret (v := .tuple #[.agg #[.int .i64 0, .int .i64 0], .bool false]) (by simp [results, Tryz.results98, go_sem, z0, z1]) rfl ⟨?_, (HBz.out.setCell (Nat.le_refl _) _).setCell (Nat.le_refl _) _⟩
        rw [HX.out]; rfl
    · have hkl' : ¬ (k : Int) < (l.length : Int) := by omega
      have HX : Hid (firstF nm kd l o s = none) := fst_none (fun j hj => HN.out j (by omega))
      have hbz := res_keep (w1 := wr) HZ.out HB.out
      obtain ⟨z0, z1, y0, y1⟩ := hbz
      have HBz : Hid (Below w.heap.size w wr) := lb_trans HB0.out HB.out
      go_wp2
      refine bodyPost_ret (v := .tuple #[.agg #[.int .i64 0, .int .i64 0], .bool false]) (by simp [results, Tryz.results98, go_sem, z0, z1]) rfl ⟨?_, (HBz.out.setCell (Nat.le_refl _) _).setCell (Nat.le_refl _) _⟩
      rw [HX.out]; rfl



end Go.Proofs.YthpkekpojhmaaaaGreatDoor

namespace Go.Proofs.YthpkekpojhmaaaaGreatDoor
open Go.RowKit

open Go.Maps Go.WideMaps
theorem grown_below {w w1 w2 : World} {B b : Nat} (h : Below B w w1) (hg : w1.grownBy w2 (some b)) (hb : B ≤ b) (hB : B ≤ w1.heap.size) : Below B w w2 := h.grown hg hB (fun j hj => by cases hj; exact hb)
theorem cell_grown {w w1 : World} {a : Addr} {b : Nat} {v : Value} (h : w.cell? a = some v) (hg : w.grownBy w1 (some b)) (hb : a.block ≠ b) : w1.cell? a = some v := by
  rw [World.cell?_of_block (hg.block a.block ?_ (by simpa using hb))]
  · exact h
  · by_cases hh : a.block < w.heap.size
    · exact hh
    · simp [World.cell?, Array.getElem?_eq_none (by omega : w.heap.size ≤ a.block)] at h
theorem two34 {w0 w1 : World} {g b : Nat} (h : w0.heap[g]? = some (.cells #[.int .i64 0, .int .i64 0] 69 (0, 0))) (hg : w0.grownBy w1 (some b)) (hb : g ≠ b) : w1.cell? ⟨g, 0, none⟩ = some (.int .i64 0) ∧ w1.cell? ⟨g, 1, none⟩ = some (.int .i64 0) ∧ w1.frozen? ⟨g, 0, none⟩ = false ∧ w1.frozen? ⟨g, 1, none⟩ = false := by
  have hl : g < w0.heap.size := by
    by_cases hl : g < w0.heap.size
    · exact hl
    · rw [Array.getElem?_eq_none (by omega)] at h; cases h
  have h1 : w1.heap[g]? = some (.cells #[.int .i64 0, .int .i64 0] 69 (0, 0)) := by rw [hg.block g hl (by simpa using hb)]; exact h
  refine ⟨?_, ?_, ?_, ?_⟩ <;> simp [World.cell?, World.frozen?, h1]
theorem mk62 (w : World) : (Instr.makeMap 121 none).run Tryz.prog w = .ok (.map (some w.heap.size)) (w.alloc (.map #[] 0)) := by
  simp [Instr.makeMap, Result.andThen]
set_option maxHeartbeats 4000000 in
set_option maxRecDepth 100000 in
theorem pfind_any (A : Option Addr) (ca : Nat) (q : Nat → Pl) (l : List Ob) (nm : ByteArray) (w : World) (hA : ObsIn w A q l) (hs : nm.size ≤ 140737488355328) :
    Calls Tryz.prog 23 #[.slice A l.length ca, .string nm] w (DefP (findF nm l) w) := by
  have hmm := mk62
  obtain ⟨w0, hw0⟩ : ∃ w0, w0 = (w.alloc (.cells #[.int .i64 0, .int .i64 0] 69)).alloc (.map #[] 0) := ⟨_, rfl⟩
  have hz : w0.heap[w.heap.size]? = some (.cells #[.int .i64 0, .int .i64 0] 69 (0, 0)) := by
    rw [hw0]
    show ((w.heap.push _).push _)[w.heap.size]? = _
    rw [Array.getElem?_push_lt (by simp), Array.getElem_push_eq]
  have hk0 : Knows w0 (w.heap.size + 1) 0 (fun _ => none) := by rw [hw0]; simpa using Knows.made (w.alloc (.cells #[.int .i64 0, .int .i64 0] 69))
  have hb0 : Below w.heap.size w w0 := by rw [hw0]; exact lb_alloc (lb_alloc (Below.refl _ _) _) _
  have HB0 : Hid (Below w.heap.size w w0) := hb0
  have HZ : Hid (w0.heap[w.heap.size]? = some (.cells #[.int .i64 0, .int .i64 0] 69 (0, 0))) := hz
  have HA : Hid (ObsIn w A q l) := hA
  have hf := hA.few
  clear hA hb0 hz
  go_enter Tryz.func23, Tryz.ntmps23
  go_wp2
  go_step3
  go_wp2
  go_step3
  go_wp2
  rw [← hw0]
  go_loopw [16] (fun i wr => ∃ (k n : Nat) (f : ByteArray → Option ((Nat × Int) × Int)), i = .int .i64 k ∧ k ≤ l.length ∧ n ≤ 1048576 * k ∧ Hid (Knows wr (w.heap.size + 1) n f) ∧ Hid (f nm = seenF nm l k 0) ∧ Hid (firstF nm 1 l k 0 = none) ∧ Hid (w0.grownBy wr (some (w.heap.size + 1)))) (fun i _ => l.length - (intOf i).toNat)
  case atStart => exact ⟨0, 0, _, rfl, Nat.zero_le _, Nat.zero_le _, hk0, (seen_zero nm l).symm, firstF_zero nm 1 l, ⟨rfl, rfl, rfl, Nat.le_refl _, fun _ _ _ => rfl⟩⟩
  case round =>
    obtain ⟨k, n, f, rfl, hk, hn, HK, HF, H1, HG⟩ := hrel
    by_cases hkl : k < l.length
    · have hkl' : (k : Int) < (l.length : Int) := by omega
      have HBw : Hid (Below w.heap.size w wr) := grown_below HB0.out HG.out (by omega) HB0.out.size
      obtain ⟨a, ea, x0, x1, x2, x3, x4, x5⟩ := HA.out.cells.six HBw.out k hkl
      subst ea
      have hss := (HA.out.each k hkl).hs
      go_wp2
      go_loopw [24] (fun i wr => ∃ (j n : Nat) (f : ByteArray → Option ((Nat × Int) × Int)), i = .int .i64 j ∧ j ≤ (ob l k).ss.length ∧ n ≤ 1048576 * k + j ∧ Hid (Knows wr (w.heap.size + 1) n f) ∧ Hid (f nm = seenF nm l k j) ∧ Hid (firstF nm 1 l k j = none) ∧ Hid (w0.grownBy wr (some (w.heap.size + 1)))) (fun i _ => (ob l k).ss.length - (intOf i).toNat)
      case atStart => exact ⟨0, n, f, rfl, Nat.zero_le _, by omega, HK.out.keep (lb_alloc (Below.refl _ _) _), HF, H1, grown_alloc HG.out _⟩
      case round =>
        clear HK HF H1 HG HBw x0 x1 x2 x3 x4 x5 hn
        clear n f
        obtain ⟨j, n, f, rfl, hj, hn, HK, HF, H1, HG⟩ := hrel
        have HBw : Hid (Below w.heap.size w wr) := grown_below HB0.out HG.out (by omega) HB0.out.size
        by_cases hjl : j < (ob l k).ss.length
        · have hjl' : (j : Int) < ((ob l k).ss.length : Int) := by omega
          obtain ⟨a3, e3, s0, s1, s2⟩ := (HA.out.each k hkl).sy j hjl
          have t0 := lkeep HBw.out s0
          have t1 : wr.cell? ⟨(a3.add (j * 3)).block, (a3.add (j * 3)).off + 1, none⟩ = some (.int .i8 (sKind (ob l k).ss j)) := lkeep HBw.out s1
          have t2 : wr.cell? ⟨(a3.add (j * 3)).block, (a3.add (j * 3)).off + 2, none⟩ = some (.int .i64 (sAt (ob l k).ss j)) := lkeep HBw.out s2
          rw [e3]
          clear s0 s1 s2
          cases hnm : ((sName (ob l k).ss j).toList == nm.toList)
          · have HF2 : Hid (f nm = seenF nm l k (j + 1)) := by rw [Hid, seen_other hkl hjl hnm]; exact HF.out
            have H12 : Hid (firstF nm 1 l k (j + 1) = none) := firstF_same hkl hjl (hitS_no (Or.inl hnm)) H1.out
            go_wp2
            go_roundw
            case rel => exact ⟨j + 1, n, f, by go_num, by omega, by omega, HK.out.keep (lb_alloc (Below.refl _ _) _), HF2, H12, grown_alloc HG.out _⟩
            case measure => simp [intOf]; omega
          · have CL := learn_any (w.heap.size + 1) n f (sName (ob l k).ss j) (sKind (ob l k).ss j) (sAt (ob l k).ss j) k (wr.alloc (.cells #[.string (sName (ob l k).ss j), .int .i8 (sKind (ob l k).ss j), .int .i64 (sAt (ob l k).ss j)] 131)) (HK.out.keep (lb_alloc (Below.refl _ _) _)) (by omega) ((HA.out.each k hkl).hN j)
            have hF2 := find_put hkl hjl hnm HF.out H1.out
            have hlt := HK.out.lt
            go_wp2_with fail
            refine CL.mono ?_
            rintro e w2 ⟨rfl, hk2, hg2⟩
            have u1 : w2.cell? ⟨wr.heap.size, 1, none⟩ = some (.int .i8 (sKind (ob l k).ss j)) := cell_grown (by simp [go_sem]) hg2 (by simp; omega)
            have HG2 : Hid (w0.grownBy w2 (some (w.heap.size + 1))) := (grown_alloc HG.out _).trans hg2
            generalize hf' : putF f (sName (ob l k).ss j) (learnV (f (sName (ob l k).ss j)) k (sAt (ob l k).ss j) (sKind (ob l k).ss j)) = f' at hk2 hF2
            have HF2 : Hid (f' nm = seenF nm l k (j + 1)) := hF2
            have HK2 : Hid (Knows w2 (w.heap.size + 1) (n + 1) f') := hk2
            clear CL hk2 hg2 hf' HK hF2
            cases hd : (sKind (ob l k).ss j == 1)
            · have H12 : Hid (firstF nm 1 l k (j + 1) = none) := firstF_same hkl hjl (hitS_no (Or.inr hd)) H1.out
              go_wp2
              go_roundw
              case rel => exact ⟨j + 1, n + 1, f', by go_num, by omega, by omega, HK2, HF2, H12, HG2⟩
              case measure => simp [intOf]; omega
            · have HT : Hid (Tells (f' nm) (findF nm l)) := by rw [HF2.out]; exact tells_hit hkl hjl hnm H1.out hd
              obtain ⟨z0, z1, y0, y1⟩ := two34 (w1 := w2.alloc (.cells #[.int .i64 (mI (f' nm)), .int .i64 (mA (f' nm)), .int .i8 (mK (f' nm))] 134)) HZ.out (grown_alloc HG2.out _) (by omega)
              have HBz : Hid (Below w.heap.size w (w2.alloc (.cells #[.int .i64 (mI (f' nm)), .int .i64 (mA (f' nm)), .int .i8 (mK (f' nm))] 134))) := grown_below HB0.out (grown_alloc HG2.out _) (by omega) HB0.out.size
              go_wp2_with (at_lookup; refine wpList_look_ok _ rfl _ _ rfl (w.heap.size + 1) _ f' HK2.out nm hs rfl rfl ?_; unfold mVal)
              try rw [Exit.noGoto_ret]
              refine bodyPost_ret (v := .tuple #[.agg #[.int .i64 (mI (f' nm)), .int .i64 (mA (f' nm))], .bool (f' nm).isSome]) (by simp [results, Tryz.results23, go_sem, z0, z1]) rfl ⟨?_, (HBz.out.setCell (Nat.le_refl _) _).setCell (Nat.le_refl _) _⟩
              rw [HT.out.1, HT.out.2.1, HT.out.2.2]
        · have hjl' : ¬ (j : Int) < ((ob l k).ss.length : Int) := by omega
          obtain rfl : j = (ob l k).ss.length := by omega
          have HF2 : Hid (f nm = seenF nm l (k + 1) 0) := by rw [Hid, seen_next nm l hkl]; exact HF.out
          have H12 : Hid (firstF nm 1 l (k + 1) 0 = none) := by rw [Hid, firstF_next nm 1 l hkl]; exact H1.out
          go_wp2
          go_roundw
          case rel => exact ⟨k + 1, n, f, by go_num, by omega, by omega, HK, HF2, H12, HG⟩
          case measure => simp [intOf]; omega
    · have hkl' : ¬ (k : Int) < (l.length : Int) := by omega
      obtain rfl : k = l.length := by omega
      have HT : Hid (Tells (f nm) (findF nm l)) := by rw [HF.out]; exact tells_full nm l
      obtain ⟨z0, z1, y0, y1⟩ := two34 (w1 := wr.alloc (.cells #[.int .i64 (mI (f nm)), .int .i64 (mA (f nm)), .int .i8 (mK (f nm))] 134)) HZ.out (grown_alloc HG.out _) (by omega)
      have HBz : Hid (Below w.heap.size w (wr.alloc (.cells #[.int .i64 (mI (f nm)), .int .i64 (mA (f nm)), .int .i8 (mK (f nm))] 134))) := grown_below HB0.out (grown_alloc HG.out _) (by omega) HB0.out.size
      go_wp2_with (at_lookup; refine wpList_look_ok _ rfl _ _ rfl (w.heap.size + 1) _ f HK.out nm hs rfl rfl ?_; unfold mVal)
      try rw [Exit.noGoto_ret]
      refine bodyPost_ret (v := .tuple #[.agg #[.int .i64 (mI (f nm)), .int .i64 (mA (f nm))], .bool (f nm).isSome]) (by simp [results, Tryz.results23, go_sem, z0, z1]) rfl ⟨?_, (HBz.out.setCell (Nat.le_refl _) _).setCell (Nat.le_refl _) _⟩
      rw [HT.out.1, HT.out.2.1, HT.out.2.2]


end Go.Proofs.YthpkekpojhmaaaaGreatDoor

namespace Go.Proofs.YthpkekpojhmaaaaGreatDoor
open Go.RowKit

theorem ret3I {a b c d e f : Int} (h1 : a = b) (h2 : c = d) (h3 : e = f) : Ending.returned (.tuple #[.int .i64 a, .int .i64 c, .int .i64 e]) = .returned (.tuple #[.int .i64 b, .int .i64 d, .int .i64 f]) := by rw [h1, h2, h3]
theorem sameN_no {l : List Ob} {i k : Nat} (h : ((ob l k).nm.toList == (ob l i).nm.toList) = false) : sameN l i k = none := by
  unfold sameN; rw [if_neg (by rw [h]; simp)]
theorem sameN_yes {l : List Ob} {i k : Nat} (h : ((ob l k).nm.toList == (ob l i).nm.toList) = true) : sameN l i k = some () := by
  unfold sameN; rw [if_pos h]
set_option maxHeartbeats 4000000 in
set_option maxRecDepth 100000 in
theorem refchkl_any (A : Option Addr) (ca : Nat) (q : Nat → Pl) (l : List Ob) (w : World) (hA : ObsIn w A q l) :
    Calls Tryz.prog 96 #[.slice A l.length ca] w (ErrP (chkL l) w) := by
  have HA : Hid (ObsIn w A q l) := hA
  have hf := hA.few
  clear hA
  by_cases hm : 32 < l.length
  · have hm' : (32 : Int) < (l.length : Int) := by omega
    have HX : Hid (chkL l = some (21, 32, 0)) := by unfold Hid chkL; rw [if_pos hm]
    go_enter Tryz.func96, Tryz.ntmps96
    go_wp2
    go_ret3
    exact ⟨ret3I (by rw [HX.out]; rfl) (by rw [HX.out]; rfl) (by rw [HX.out]; rfl), Below.refl _ _⟩
  · have hm' : ¬ (32 : Int) < (l.length : Int) := by omega
    have HX : Hid (chkL l = fstN (badO l) l.length) := by unfold Hid chkL; rw [if_neg hm]
    go_enter Tryz.func96, Tryz.ntmps96
    go_wp2
    go_loopw [5] (fun i wr => ∃ k : Nat, i = .int .i64 k ∧ k ≤ l.length ∧ Hid (∀ j, j < k → badO l j = none) ∧ Hid (Below w.heap.size w wr)) (fun i _ => l.length - (intOf i).toNat)
    case atStart => exact ⟨0, rfl, Nat.zero_le _, fun j hj => absurd hj (Nat.not_lt_zero _), Below.refl _ _⟩
    case round =>
      obtain ⟨k, rfl, hk, HN, HB⟩ := hrel
      by_cases hkl : k < l.length
      · have hkl' : (k : Int) < (l.length : Int) := by omega
        obtain ⟨a, ea, x0, x1, x2, x3, x4, x5⟩ := HA.out.cells.six HB.out k hkl
        have oA := (HA.out.each k hkl).keep HB.out
        have CC := refcheck_any (ob l k).nm (ob l k).dA (q k).A1 (q k).A2 (q k).A3 (q k).A4 (q k).c1 (ob l k).data.length (q k).c2 (q k).c3 (q k).c4 (ob l k).code (ob l k).ss (ob l k).rs wr oA.cd oA.cr oA.sy oA.rl oA.hc oA.hd oA.hs oA.hl
        obtain ⟨E, hE⟩ : ∃ E, E = (obC (ob l k)).1 := ⟨_, rfl⟩
        obtain ⟨M, hM⟩ : ∃ M, M = (obC (ob l k)).2 := ⟨_, rfl⟩
        change Calls Tryz.prog 143 _ wr (fun e w' => e = .returned (.tuple #[.int .i64 (obC (ob l k)).1, .int .i64 (obC (ob l k)).2]) ∧ Below wr.heap.size wr w') at CC
        rw [← hE, ← hM] at CC
        have HE : Hid (E = (obC (ob l k)).1) := hE
        have HM : Hid (M = (obC (ob l k)).2) := hM
        clear oA hE hM
        subst ea
        by_cases he : E = 0
        · subst he
          go_wp2_with fail
          refine CC.mono ?_
          rintro e w1 ⟨rfl, hb1⟩
          have HB1 : Hid (Below w.heap.size w w1) := lb_trans HB.out hb1
          clear CC hb1 x0 x1 x2 x3 x4 x5
          go_wp2
          go_loopw [8] (fun i wr => ∃ j : Nat, i = .int .i64 j ∧ j ≤ k ∧ Hid (∀ m, m < j → sameN l k m = none) ∧ Hid (Below w.heap.size w wr)) (fun i _ => k - (intOf i).toNat)
          case atStart => exact ⟨0, rfl, Nat.zero_le _, fun j hj => absurd hj (Nat.not_lt_zero _), HB1⟩
          case round =>
            clear HB1 HB
            obtain ⟨j, rfl, hj, HS, HB2⟩ := hrel
            by_cases hjk : j < k
            · have hjk' : (j : Int) < (k : Int) := by omega
              have hjl : j < l.length := by omega
              have hjl' : (j : Int) < (l.length : Int) := by omega
              obtain ⟨b, eb, x0, -⟩ := HA.out.cells.six HB2.out k hkl
              obtain rfl := Option.some.inj eb
              clear eb
              obtain ⟨b, eb, y0, -⟩ := HA.out.cells.six HB2.out j hjl
              obtain rfl := Option.some.inj eb
              clear eb
              cases hn : ((ob l j).nm.toList == (ob l k).nm.toList)
              · have HS2 : Hid _ := fst_step HS.out (sameN_no hn)
                go_wp2
                go_quiet (fail)
                have HB3 : Hid (Below w.heap.size w (wr.drewN nq)) := below_drewN HB2.out _
                go_wp2
                go_roundw
                case rel => exact ⟨j + 1, by go_num, by omega, HS2, HB3⟩
                case measure => simp [intOf]; omega
              · have HX2 : Hid (chkL l = some (26, (k : Int), -1)) := by
                  rw [Hid, HX.out]
                  refine fst_hit HN.out ?_ hkl
                  unfold badO
                  rw [if_pos HE.out.symm, fst_hit HS.out (sameN_yes hn) hjk]
                go_wp2
                go_quiet (fail)
                have HB3 : Hid (Below w.heap.size w (wr.drewN nq)) := below_drewN HB2.out _
                go_wp2
                go_ret3
                exact ⟨ret3I (by rw [HX2.out]; rfl) (by rw [HX2.out]; rfl) (by rw [HX2.out]; rfl), HB3.out⟩
            · have hjk' : ¬ (j : Int) < (k : Int) := by omega
              have HN2 : Hid _ := fst_step HN.out (show badO l k = none by
                unfold badO
                rw [if_pos HE.out.symm, fst_none (fun m hm => HS.out m (by omega))])
              go_wp2
              go_roundw
              case rel => exact ⟨k + 1, by go_num, by omega, HN2, HB2⟩
              case measure => simp [intOf]; omega
        · have he' : (E != 0) = true := by simpa using he
          have HX2 : Hid (chkL l = some (E, (k : Int), M)) := by
            rw [Hid, HX.out]
            refine fst_hit HN.out ?_ hkl
            unfold badO
            rw [if_neg (by rw [← HE.out]; exact he), ← HE.out, ← HM.out]
          clear he
          go_wp2_with fail
          refine CC.mono ?_
          rintro e w1 ⟨rfl, hb1⟩
          have HB1 : Hid (Below w.heap.size w w1) := lb_trans HB.out hb1
          clear CC hb1 x0 x1 x2 x3 x4 x5
          go_wp2
          go_ret3
          exact ⟨ret3I (by rw [HX2.out]; rfl) (by rw [HX2.out]; rfl) (by rw [HX2.out]; rfl), HB1.out⟩
      · have hkl' : ¬ (k : Int) < (l.length : Int) := by omega
        have HX2 : Hid (chkL l = none) := by rw [Hid, HX.out]; exact fst_none (fun j hj => HN.out j (by omega))
        go_wp2
        go_ret3
        exact ⟨ret3I (by rw [HX2.out]; rfl) (by rw [HX2.out]; rfl) (by rw [HX2.out]; rfl), HB.out⟩



end Go.Proofs.YthpkekpojhmaaaaGreatDoor

namespace Go.Proofs.YthpkekpojhmaaaaGreatDoor
open Go.RowKit

theorem few_len {w : World} {A : Option Addr} {q : Nat → Pl} {l : List Ob} (h : ObsIn w A q l) : (l.length : Int) ≤ 64 := by have := h.few; omega
set_option maxHeartbeats 4000000 in
set_option maxRecDepth 100000 in
theorem reffind_any (A : Option Addr) (ca : Nat) (q : Nat → Pl) (l : List Ob) (nm : ByteArray) (w : World) (hA : ObsIn w A q l) :
    Calls Tryz.prog 42 #[.slice A l.length ca, .string nm] w (DefP (findF nm l) w) := by
  obtain ⟨w0, hw0⟩ : ∃ w0, w0 = w.alloc (.cells #[.int .i64 0, .int .i64 0] 106) := ⟨_, rfl⟩
  have hb0 : Below w.heap.size w w0 := by rw [hw0]; exact lb_alloc (Below.refl _ _) _
  have HZ : Hid (w0.heap[w.heap.size]? = some (.cells #[.int .i64 0, .int .i64 0] 106 (0, 0))) := by rw [hw0]; show (w.heap.push _)[w.heap.size]? = _; simp
  have HB0 : Hid (Below w.heap.size w w0) := hb0
  have CF : Hid (∀ kd wx, Below w.heap.size w wx → Calls Tryz.prog 98 #[.slice A l.length ca, .string nm, .int .i8 kd, .int .i64 l.length, .int .i64 0] wx (DefP (firstF nm kd l l.length 0) wx)) := fun kd wx hx => reffirst_any A ca q l nm kd l.length 0 wx (hA.keep hx) hA.few (by omega)
  have hf := hA.few
  clear hA hb0
  have C1 := CF.out 1 w0 HB0.out
  obtain ⟨x, hx⟩ : ∃ x, x = firstF nm 1 l l.length 0 := ⟨_, rfl⟩
  rw [← hx] at C1
  unfold DefP at C1
  have HX : Hid (x = firstF nm 1 l l.length 0) := hx
  clear hx
  go_enter Tryz.func42, Tryz.ntmps42
  go_wp2_with fail
  rw [← hw0]
  refine C1.mono ?_
  rintro e w1 ⟨rfl, hb1⟩
  have HB1 : Hid (Below w0.heap.size w0 w1) := hb1
  clear C1 hb1
  cases x with
  | some x =>
    have HF : Hid (findF nm l = some x) := by unfold Hid findF; rw [← HX.out]
    obtain ⟨z0, z1, y0, y1⟩ := res_keep (w1 := w1.alloc (.cells #[.int .i64 x.1, .int .i64 x.2] 106)) HZ.out (lb_alloc HB1.out _)
    have HBz : Hid (Below w.heap.size w (w1.alloc (.cells #[.int .i64 x.1, .int .i64 x.2] 106))) := lb_trans HB0.out (lb_alloc HB1.out _)
    have e1 : dfI (some x) = x.1 := rfl
    have e2 : dfA (some x) = x.2 := rfl
    have e3 : (some x).isSome = true := rfl
    rw [e1, e2, e3]
    go_wp2
    refine bodyPost_ret (v := .tuple #[.agg #[.int .i64 x.1, .int .i64 x.2], .bool true]) (by simp [results, Tryz.results42, go_sem, z0, z1]) rfl ⟨?_, (HBz.out.setCell (Nat.le_refl _) _).setCell (Nat.le_refl _) _⟩
    rw [HF.out]; rfl
  | none =>
    have HF : Hid (findF nm l = firstF nm 2 l l.length 0) := by unfold Hid findF; rw [← HX.out]
    have C2 := CF.out 2 (w1.alloc (.cells #[.int .i64 0, .int .i64 0] 106)) (lb_trans HB0.out (lb_alloc HB1.out _))
    rw [← HF.out] at C2
    unfold DefP at C2
    have e1 : dfI none = 0 := rfl
    have e2 : dfA none = 0 := rfl
    have e3 : (none : Option (Nat × Int)).isSome = false := rfl
    rw [e1, e2, e3]
    go_wp2_with fail
    refine C2.mono ?_
    rintro e w2 ⟨rfl, hb2⟩
    obtain ⟨z0, z1, y0, y1⟩ := res_keep (w1 := w2) HZ.out (lb_trans (lb_alloc HB1.out _) hb2)
    have HBz : Hid (Below w.heap.size w w2) := lb_trans HB0.out (lb_trans (lb_alloc HB1.out _) hb2)
    clear C2 hb2
    generalize hX : findF nm l = X
    go_wp2
    exact bodyPost_ret (v := .tuple #[.agg #[.int .i64 (dfI X), .int .i64 (dfA X)], .bool X.isSome]) (by simp [results, Tryz.results42, go_sem, z0, z1]) rfl ⟨by rw [hX], (HBz.out.setCell (Nat.le_refl _) _).setCell (Nat.le_refl _) _⟩



end Go.Proofs.YthpkekpojhmaaaaGreatDoor

namespace Go.Proofs.YthpkekpojhmaaaaGreatDoor
open Go.RowKit

theorem twS_no {l : List Ob} {i k : Nat} (h : (sKind (ob l i).ss k == 1) = false ∨ (firstF (sName (ob l i).ss k) 1 l i k).isSome = false) : twS l i k = none := by
  unfold twS
  rw [if_neg]
  rintro ⟨h1, h2⟩
  rcases h with h | h
  · rw [h1] at h; cases h
  · rw [h2] at h; cases h
theorem twS_yes {l : List Ob} {i k : Nat} (h : (sKind (ob l i).ss k == 1) = true) (h2 : (firstF (sName (ob l i).ss k) 1 l i k).isSome = true) : twS l i k = some (26, (i : Int), (k : Int)) := by
  unfold twS
  rw [if_pos ⟨h, h2⟩]
theorem unS_no {l : List Ob} {i k : Nat} (h : (sKind (ob l i).ss k == 3) = false ∨ (findF (sName (ob l i).ss k) l).isSome = true) : unS l i k = none := by
  unfold unS
  rw [if_neg]
  rintro ⟨h1, h2⟩
  rcases h with h | h
  · rw [h1] at h; cases h
  · rw [h2] at h; cases h
theorem unS_yes {l : List Ob} {i k : Nat} (h : (sKind (ob l i).ss k == 3) = true) (h2 : (findF (sName (ob l i).ss k) l).isSome = false) : unS l i k = some (40, (i : Int), (k : Int)) := by
  unfold unS
  rw [if_pos ⟨h, h2⟩]
set_option maxHeartbeats 8000000 in
set_option maxRecDepth 100000 in
theorem refnames_any (A : Option Addr) (ca : Nat) (q : Nat → Pl) (l : List Ob) (w : World) (hA : ObsIn w A q l) :
    Calls Tryz.prog 97 #[.slice A l.length ca] w (ErrP (namL l) w) := by
  have HA : Hid (ObsIn w A q l) := hA
  have hf := hA.few
  have C1 : Hid (∀ nm (o s : Nat) wx, Below w.heap.size w wx → o ≤ 64 → s ≤ 1048576 → Calls Tryz.prog 98 #[.slice A l.length ca, .string nm, .int .i8 1, .int .i64 o, .int .i64 s] wx (DefP (firstF nm 1 l o s) wx)) := fun nm o s wx hx ho hs => reffirst_any A ca q l nm 1 o s wx (hA.keep hx) ho hs
  have C2 : Hid (∀ nm wx, Below w.heap.size w wx → Calls Tryz.prog 42 #[.slice A l.length ca, .string nm] wx (DefP (findF nm l) wx)) := fun nm wx hx => reffind_any A ca q l nm wx (hA.keep hx)
  clear hA
  go_enter Tryz.func97, Tryz.ntmps97
  go_wp2
  go_loopw [5] (fun i wr => ∃ k : Nat, i = .int .i64 k ∧ k ≤ l.length ∧ Hid (∀ j, j < k → twO l j = none) ∧ Hid (Below w.heap.size w wr)) (fun i _ => l.length - (intOf i).toNat)
  case atStart => exact ⟨0, rfl, Nat.zero_le _, fun j hj => absurd hj (Nat.not_lt_zero _), Below.refl _ _⟩
  case round =>
    obtain ⟨k, rfl, hk, HN, HB⟩ := hrel
    by_cases hkl : k < l.length
    · have hkl' : (k : Int) < (l.length : Int) := by omega
      obtain ⟨a, ea, -⟩ := HA.out.cells k hkl
      subst ea
      go_wp2
      go_loopw [6] (fun i wr => ∃ j : Nat, i = .int .i64 j ∧ j ≤ (ob l k).ss.length ∧ Hid (∀ m, m < j → twS l k m = none) ∧ Hid (Below w.heap.size w wr)) (fun i _ => (ob l k).ss.length - (intOf i).toNat)
      case atStart => exact ⟨0, rfl, Nat.zero_le _, fun j hj => absurd hj (Nat.not_lt_zero _), HB⟩
      case round =>
        clear HB
        obtain ⟨j, rfl, hj, HS, HB1⟩ := hrel
        obtain ⟨b, eb, x0, x1, x2, x3, x4, x5⟩ := HA.out.cells.six HB1.out k hkl
        obtain rfl := Option.some.inj eb
        have hss := (HA.out.each k hkl).hs
        clear eb x0 x1 x2 x3 x5
        by_cases hjl : j < (ob l k).ss.length
        · have hjl' : (j : Int) < ((ob l k).ss.length : Int) := by omega
          obtain ⟨a3, e3, s0, s1, s2⟩ := (HA.out.each k hkl).sy j hjl
          have t0 := lkeep HB1.out s0
          have t1 : wr.cell? ⟨(a3.add (j * 3)).block, (a3.add (j * 3)).off + 1, none⟩ = some (.int .i8 (sKind (ob l k).ss j)) := lkeep HB1.out s1
          have t2 : wr.cell? ⟨(a3.add (j * 3)).block, (a3.add (j * 3)).off + 2, none⟩ = some (.int .i64 (sAt (ob l k).ss j)) := lkeep HB1.out s2
          rw [e3] at x4
          clear s0 s1 s2 e3
          have CF := C1.out (sName (ob l k).ss j) k j (wr.alloc (.cells #[.string (sName (ob l k).ss j), .int .i8 (sKind (ob l k).ss j), .int .i64 (sAt (ob l k).ss j)] 131)) (lb_alloc HB1.out _) (by omega) (by omega)
          obtain ⟨x, hx⟩ : ∃ x, x = firstF (sName (ob l k).ss j) 1 l k j := ⟨_, rfl⟩
          rw [← hx] at CF
          unfold DefP at CF
          have HX : Hid (x = firstF (sName (ob l k).ss j) 1 l k j) := hx
          clear hx
          go_wp2_with fail
          refine CF.mono ?_
          rintro e w1 ⟨rfl, hb1⟩
          have g1 : (w1.alloc (.cells #[.int .i64 (dfI x), .int .i64 (dfA x)] 106)).cell? ⟨wr.heap.size, 1, none⟩ = some (.int .i8 (sKind (ob l k).ss j)) := lkeep (lb_alloc (Below.refl _ _) _) (lkeep hb1 (by simp [go_sem]))
          have HB2 : Hid (Below w.heap.size w w1) := lb_trans (lb_alloc HB1.out _) hb1
          clear CF hb1 t0 t1 t2 x4
          cases hd : (sKind (ob l k).ss j == 1)
          · have HS2 : Hid _ := fst_step HS.out (twS_no (Or.inl hd))
            go_wp2
            go_roundw
            case rel => exact ⟨j + 1, by go_num, by omega, HS2, lb_alloc HB2.out _⟩
            case measure => simp [intOf]; omega
          · cases hy : x.isSome
            · have HS2 : Hid _ := fst_step HS.out (twS_no (Or.inr (by rw [← HX.out]; exact hy)))
              go_wp2
              go_roundw
              case rel => exact ⟨j + 1, by go_num, by omega, HS2, lb_alloc HB2.out _⟩
              case measure => simp [intOf]; omega
            · have HX2 : Hid (namL l = some (26, (k : Int), (j : Int))) := by
                unfold Hid namL
                rw [fst_hit HN.out (show twO l k = some (26, (k : Int), (j : Int)) from fst_hit HS.out (twS_yes hd (by rw [← HX.out]; exact hy)) hjl) hkl]
              go_wp2
              go_ret3
              exact ⟨ret3I (by rw [HX2.out]; rfl) (by rw [HX2.out]; rfl) (by rw [HX2.out]; rfl), lb_alloc HB2.out _⟩
        · have hjl' : ¬ (j : Int) < ((ob l k).ss.length : Int) := by omega
          have HN2 : Hid _ := fst_step HN.out (show twO l k = none from fst_none (fun m hm => HS.out m (by omega)))
          go_wp2
          go_roundw
          case rel => exact ⟨k + 1, by go_num, by omega, HN2, HB1⟩
          case measure => simp [intOf]; omega
    · have hkl' : ¬ (k : Int) < (l.length : Int) := by omega
      have HT : Hid (namL l = fstN (unO l) l.length) := by
        unfold Hid namL
        rw [fst_none (fun j hj => HN.out j (by omega))]
      clear HN
      go_wp2
      go_loopw [10] (fun i wr => ∃ k : Nat, i = .int .i64 k ∧ k ≤ l.length ∧ Hid (∀ j, j < k → unO l j = none) ∧ Hid (Below w.heap.size w wr)) (fun i _ => l.length - (intOf i).toNat)
      case atStart => exact ⟨0, rfl, Nat.zero_le _, fun j hj => absurd hj (Nat.not_lt_zero _), HB⟩
      case round =>
        clear HB hk hkl hkl'
        obtain ⟨k, rfl, hk, HN, HB⟩ := hrel
        by_cases hkl : k < l.length
        · have hkl' : (k : Int) < (l.length : Int) := by omega
          obtain ⟨a, ea, -⟩ := HA.out.cells k hkl
          subst ea
          go_wp2
          go_loopw [11] (fun i wr => ∃ j : Nat, i = .int .i64 j ∧ j ≤ (ob l k).ss.length ∧ Hid (∀ m, m < j → unS l k m = none) ∧ Hid (Below w.heap.size w wr)) (fun i _ => (ob l k).ss.length - (intOf i).toNat)
          case atStart => exact ⟨0, rfl, Nat.zero_le _, fun j hj => absurd hj (Nat.not_lt_zero _), HB⟩
          case round =>
            clear HB
            obtain ⟨j, rfl, hj, HS, HB1⟩ := hrel
            obtain ⟨b, eb, x0, x1, x2, x3, x4, x5⟩ := HA.out.cells.six HB1.out k hkl
            obtain rfl := Option.some.inj eb
            have hss := (HA.out.each k hkl).hs
            clear eb x0 x1 x2 x3 x5
            by_cases hjl : j < (ob l k).ss.length
            · have hjl' : (j : Int) < ((ob l k).ss.length : Int) := by omega
              obtain ⟨a3, e3, s0, s1, s2⟩ := (HA.out.each k hkl).sy j hjl
              have t0 := lkeep HB1.out s0
              have t1 : wr.cell? ⟨(a3.add (j * 3)).block, (a3.add (j * 3)).off + 1, none⟩ = some (.int .i8 (sKind (ob l k).ss j)) := lkeep HB1.out s1
              have t2 : wr.cell? ⟨(a3.add (j * 3)).block, (a3.add (j * 3)).off + 2, none⟩ = some (.int .i64 (sAt (ob l k).ss j)) := lkeep HB1.out s2
              rw [e3] at x4
              clear s0 s1 s2 e3
              have CF := C2.out (sName (ob l k).ss j) (wr.alloc (.cells #[.string (sName (ob l k).ss j), .int .i8 (sKind (ob l k).ss j), .int .i64 (sAt (ob l k).ss j)] 131)) (lb_alloc HB1.out _)
              obtain ⟨x, hx⟩ : ∃ x, x = findF (sName (ob l k).ss j) l := ⟨_, rfl⟩
              rw [← hx] at CF
              unfold DefP at CF
              have HX : Hid (x = findF (sName (ob l k).ss j) l) := hx
              clear hx
              go_wp2_with fail
              refine CF.mono ?_
              rintro e w1 ⟨rfl, hb1⟩
              have g1 : (w1.alloc (.cells #[.int .i64 (dfI x), .int .i64 (dfA x)] 106)).cell? ⟨wr.heap.size, 1, none⟩ = some (.int .i8 (sKind (ob l k).ss j)) := lkeep (lb_alloc (Below.refl _ _) _) (lkeep hb1 (by simp [go_sem]))
              have HB2 : Hid (Below w.heap.size w w1) := lb_trans (lb_alloc HB1.out _) hb1
              clear CF hb1 t0 t1 t2 x4
              cases hd : (sKind (ob l k).ss j == 3)
              · have HS2 : Hid _ := fst_step HS.out (unS_no (Or.inl hd))
                go_wp2
                go_roundw
                case rel => exact ⟨j + 1, by go_num, by omega, HS2, lb_alloc HB2.out _⟩
                case measure => simp [intOf]; omega
              · cases hy : x.isSome
                · have HX2 : Hid (namL l = some (40, (k : Int), (j : Int))) := by
                    rw [Hid, HT.out]
                    exact fst_hit HN.out (show unO l k = some (40, (k : Int), (j : Int)) from fst_hit HS.out (unS_yes hd (by rw [← HX.out]; exact hy)) hjl) hkl
                  go_wp2
                  go_ret3
                  exact ⟨ret3I (by rw [HX2.out]; rfl) (by rw [HX2.out]; rfl) (by rw [HX2.out]; rfl), lb_alloc HB2.out _⟩
                · have HS2 : Hid _ := fst_step HS.out (unS_no (Or.inr (by rw [← HX.out]; exact hy)))
                  go_wp2
                  go_roundw
                  case rel => exact ⟨j + 1, by go_num, by omega, HS2, lb_alloc HB2.out _⟩
                  case measure => simp [intOf]; omega
            · have hjl' : ¬ (j : Int) < ((ob l k).ss.length : Int) := by omega
              have HN2 : Hid _ := fst_step HN.out (show unO l k = none from fst_none (fun m hm => HS.out m (by omega)))
              go_wp2
              go_roundw
              case rel => exact ⟨k + 1, by go_num, by omega, HN2, HB1⟩
              case measure => simp [intOf]; omega
        · have hkl' : ¬ (k : Int) < (l.length : Int) := by omega
          have HX2 : Hid (namL l = none) := by rw [Hid, HT.out]; exact fst_none (fun j hj => HN.out j (by omega))
          go_wp2
          go_ret3
          exact ⟨ret3I (by rw [HX2.out]; rfl) (by rw [HX2.out]; rfl) (by rw [HX2.out]; rfl), HB.out⟩



end Go.Proofs.YthpkekpojhmaaaaGreatDoor

namespace Go.Proofs.YthpkekpojhmaaaaGreatDoor
open Go.RowKit

open Go.Maps Go.WideMaps
def seenA (l : List Ob) (o s : Nat) (x : ByteArray) : Option ((Nat × Int) × Int) := seenF x l o s
/-- An answer of learnAll. -/
def LearnP (l : List Ob) (w : World) (e : Ending) (w' : World) : Prop :=
  (∃ x, fstN (twO l) l.length = some x ∧ e = .returned (.tuple #[.map none, .int .i64 x.1, .int .i64 x.2.1, .int .i64 x.2.2]) ∧ Below w.heap.size w w') ∨
  (fstN (twO l) l.length = none ∧ ∃ n, e = .returned (.tuple #[.map (some w.heap.size), .int .i64 0, .int .i64 0, .int .i64 0]) ∧ Knows w' w.heap.size n (seenA l l.length 0) ∧ Below w.heap.size w w')
theorem field73 (x y z : Value) (w : World) : (Instr.field 134 (.agg #[x, y, z]) 1).run Tryz.prog w = .ok z w := by kernel_rfl
set_option maxHeartbeats 4000000 in
set_option maxRecDepth 100000 in
theorem plearn_any (A : Option Addr) (ca : Nat) (q : Nat → Pl) (l : List Ob) (w : World) (hA : ObsIn w A q l) :
    Calls Tryz.prog 71 #[.slice A l.length ca] w (LearnP l w) := by
  have hmm := mk62
  have hfl := field73
  obtain ⟨w0, hw0⟩ : ∃ w0, w0 = w.alloc (.map #[] 0) := ⟨_, rfl⟩
  have hk0 : Knows w0 w.heap.size 0 (seenA l 0 0) := by rw [hw0]; exact (Knows.made w).fit fun x => (seen_zero x l).symm
  have HB0 : Hid (Below w.heap.size w w0) := by rw [Hid, hw0]; exact lb_alloc (Below.refl _ _) _
  have HA : Hid (ObsIn w A q l) := hA
  have hf := hA.few
  clear hA
  go_enter Tryz.func71, Tryz.ntmps71
  go_wp2
  rw [← hw0]
  go_loopw [14] (fun i wr => ∃ (k n : Nat), i = .int .i64 k ∧ k ≤ l.length ∧ n ≤ 1048576 * k ∧ Hid (Knows wr w.heap.size n (seenA l k 0)) ∧ Hid (∀ i, i < k → twO l i = none) ∧ Hid (w0.grownBy wr (some w.heap.size))) (fun i _ => l.length - (intOf i).toNat)
  case atStart => exact ⟨0, 0, rfl, Nat.zero_le _, Nat.zero_le _, hk0, fun i hi => absurd hi (Nat.not_lt_zero _), ⟨rfl, rfl, rfl, Nat.le_refl _, fun _ _ _ => rfl⟩⟩
  case round =>
    obtain ⟨k, n, rfl, hk, hn, HK, HN, HG⟩ := hrel
    by_cases hkl : k < l.length
    · have hkl' : (k : Int) < (l.length : Int) := by omega
      have HBw : Hid (Below w.heap.size w wr) := grown_below HB0.out HG.out (Nat.le_refl _) HB0.out.size
      obtain ⟨a, ea, x0, x1, x2, x3, x4, x5⟩ := HA.out.cells.six HBw.out k hkl
      subst ea
      have hss := (HA.out.each k hkl).hs
      go_wp2
      go_loopw [22] (fun i wr => ∃ (j n : Nat), i = .int .i64 j ∧ j ≤ (ob l k).ss.length ∧ n ≤ 1048576 * k + j ∧ Hid (Knows wr w.heap.size n (seenA l k j)) ∧ Hid (∀ m, m < j → twS l k m = none) ∧ Hid (w0.grownBy wr (some w.heap.size))) (fun i _ => (ob l k).ss.length - (intOf i).toNat)
      case atStart => exact ⟨0, n, rfl, Nat.zero_le _, by omega, HK.out.keep (lb_alloc (Below.refl _ _) _), fun i hi => absurd hi (Nat.not_lt_zero _), grown_alloc HG.out _⟩
      case round =>
        clear HK HG HBw x0 x1 x2 x3 x4 x5 hn
        clear n
        obtain ⟨j, n, rfl, hj, hn, HK, HS, HG⟩ := hrel
        have HBw : Hid (Below w.heap.size w wr) := grown_below HB0.out HG.out (Nat.le_refl _) HB0.out.size
        by_cases hjl : j < (ob l k).ss.length
        · have hjl' : (j : Int) < ((ob l k).ss.length : Int) := by omega
          obtain ⟨a3, e3, s0, s1, s2⟩ := (HA.out.each k hkl).sy j hjl
          have t0 := lkeep HBw.out s0
          have t1 : wr.cell? ⟨(a3.add (j * 3)).block, (a3.add (j * 3)).off + 1, none⟩ = some (.int .i8 (sKind (ob l k).ss j)) := lkeep HBw.out s1
          have t2 : wr.cell? ⟨(a3.add (j * 3)).block, (a3.add (j * 3)).off + 2, none⟩ = some (.int .i64 (sAt (ob l k).ss j)) := lkeep HBw.out s2
          rw [e3]
          clear s0 s1 s2
          have HKa : Hid (Knows (wr.alloc (.cells #[.string (sName (ob l k).ss j), .int .i8 (sKind (ob l k).ss j), .int .i64 (sAt (ob l k).ss j)] 131)) w.heap.size n (seenA l k j)) := HK.out.keep (lb_alloc (Below.refl _ _) _)
          have CL := learn_any w.heap.size n (seenA l k j) (sName (ob l k).ss j) (sKind (ob l k).ss j) (sAt (ob l k).ss j) k (wr.alloc (.cells #[.string (sName (ob l k).ss j), .int .i8 (sKind (ob l k).ss j), .int .i64 (sAt (ob l k).ss j)] 131)) HKa.out (by omega) ((HA.out.each k hkl).hN j)
          cases hd : (sKind (ob l k).ss j == 1)
          · have HT : Hid (twS l k j = none) := twS_no (Or.inl hd)
            go_wp2_with fail
            refine CL.mono ?_
            rintro e w2 ⟨rfl, hk2, hg2⟩
            have HK2 : Hid (Knows w2 w.heap.size (n + 1) (seenA l k (j + 1))) := hk2.fit fun x => seen_put hkl hjl (fun _ => rfl) HT.out x
            have HG2 : Hid (w0.grownBy w2 (some w.heap.size)) := (grown_alloc HG.out _).trans hg2
            clear CL hk2 hg2
            go_wp2
            go_roundw
            case rel => exact ⟨j + 1, n + 1, by go_num, by omega, by omega, HK2, fst_step HS.out HT.out, HG2⟩
            case measure => simp [intOf]; omega
          · have hl := HKa.out.look ((HA.out.each k hkl).hN j)
            unfold mVal at hl
            cases hm : (mK (seenA l k j (sName (ob l k).ss j)) == 1)
            · have HT : Hid (twS l k j = none) := twS_no (Or.inr (by rw [← seen_kind]; exact hm))
              go_wp2_with fail
              refine CL.mono ?_
              rintro e w2 ⟨rfl, hk2, hg2⟩
              have HK2 : Hid (Knows w2 w.heap.size (n + 1) (seenA l k (j + 1))) := hk2.fit fun x => seen_put hkl hjl (fun _ => rfl) HT.out x
              have HG2 : Hid (w0.grownBy w2 (some w.heap.size)) := (grown_alloc HG.out _).trans hg2
              clear CL hk2 hg2 hl
              go_wp2
              go_roundw
              case rel => exact ⟨j + 1, n + 1, by go_num, by omega, by omega, HK2, fst_step HS.out HT.out, HG2⟩
              case measure => simp [intOf]; omega
            · have HT : Hid (twS l k j = some (26, (k : Int), (j : Int))) := twS_yes hd (by rw [← seen_kind]; exact hm)
              have HX : Hid (fstN (twO l) l.length = some (26, (k : Int), (j : Int))) := fst_hit HN.out (fst_hit HS.out HT.out hjl) hkl
              clear CL
              go_wp2
              refine bodyPost_ret (v := .tuple #[.map none, .int .i64 26, .int .i64 k, .int .i64 j]) (by simp [results, Tryz.results71, go_sem]) rfl (Or.inl ⟨_, HX.out, rfl, lb_alloc HBw.out _⟩)
        · have hjl' : ¬ (j : Int) < ((ob l k).ss.length : Int) := by omega
          obtain rfl : j = (ob l k).ss.length := by omega
          have HK2 : Hid (Knows wr w.heap.size n (seenA l (k + 1) 0)) := HK.out.fit fun x => (seen_next x l hkl).symm
          have HT : Hid (twO l k = none) := fst_none HS.out
          go_wp2
          go_roundw
          case rel => exact ⟨k + 1, n, by go_num, by omega, by omega, HK2, fst_step HN.out HT.out, HG⟩
          case measure => simp [intOf]; omega
    · have hkl' : ¬ (k : Int) < (l.length : Int) := by omega
      obtain rfl : k = l.length := by omega
      have HX : Hid (fstN (twO l) l.length = none) := fst_none HN.out
      have HBw : Hid (Below w.heap.size w wr) := grown_below HB0.out HG.out (Nat.le_refl _) HB0.out.size
      go_wp2
      refine bodyPost_ret (v := .tuple #[.map (some w.heap.size), .int .i64 0, .int .i64 0, .int .i64 0]) (by simp [results, Tryz.results71, go_sem]) rfl (Or.inr ⟨HX.out, n, rfl, HK.out, HBw.out⟩)


end Go.Proofs.YthpkekpojhmaaaaGreatDoor

namespace Go.Proofs.YthpkekpojhmaaaaGreatDoor
open Go.RowKit

open Go.Maps Go.WideMaps
set_option maxHeartbeats 4000000 in
set_option maxRecDepth 100000 in
theorem fown_any (i : Nat) (nm : ByteArray) (kd at_ : Int) (w : World) :
    Calls Tryz.prog 109 #[.int .i64 i, .agg #[.string nm, .int .i8 kd, .int .i64 at_]] w fun e w' => e = .returned (.tuple #[.agg #[.int .i64 i, .int .i64 at_], .bool true]) ∧ w' = (w.alloc (.cells #[.string nm, .int .i8 kd, .int .i64 at_] 131)).alloc (.cells #[.int .i64 i, .int .i64 at_] 69) := by
  go_enter Tryz.func109, Tryz.ntmps109
  go_wp2
  refine bodyPost_ret (v := .tuple #[.agg #[.int .i64 i, .int .i64 at_], .bool true]) (by simp [results, Tryz.results109, go_sem]) rfl ⟨rfl, rfl⟩
set_option maxHeartbeats 4000000 in
set_option maxRecDepth 100000 in
theorem fnamed_any (i : Nat) (nm : ByteArray) (kd at_ : Int) (b n g : Nat) (f : ByteArray → Option ((Nat × Int) × Int)) (w : World) (hk : Knows w b n f) (hs : nm.size ≤ 140737488355328) (hc : w.cell? ⟨g, 0, none⟩ = some (.map (some b))) :
    Calls Tryz.prog 110 #[.int .i64 i, .agg #[.string nm, .int .i8 kd, .int .i64 at_], .pointer (some ⟨g, 0, none⟩)] w fun e w' => e = .returned (.tuple #[.agg #[.int .i64 (mI (f nm)), .int .i64 (mA (f nm))], .bool (f nm).isSome]) ∧ w' = ((w.alloc (.cells #[.string nm, .int .i8 kd, .int .i64 at_] 131)).alloc (.cells #[.int .i64 (mI (f nm)), .int .i64 (mA (f nm))] 69)).alloc (.cells #[.int .i64 (mI (f nm)), .int .i64 (mA (f nm)), .int .i8 (mK (f nm))] 134) := by
  have HK : Hid (Knows ((w.alloc (.cells #[.string nm, .int .i8 kd, .int .i64 at_] 131)).alloc (.cells #[.int .i64 0, .int .i64 0] 69)) b n f) := hk.keep (lb_alloc (lb_alloc (Below.refl _ _) _) _)
  have c1 : ((w.alloc (.cells #[.string nm, .int .i8 kd, .int .i64 at_] 131)).alloc (.cells #[.int .i64 0, .int .i64 0] 69)).cell? ⟨g, 0, none⟩ = some (.map (some b)) := lkeep (lb_alloc (lb_alloc (Below.refl _ _) _) _) hc
  go_enter Tryz.func110, Tryz.ntmps110
  go_wp2_with (at_lookup; refine wpList_look_ok _ rfl _ _ rfl b n f HK.out nm hs rfl rfl ?_; unfold mVal)
  refine bodyPost_ret (v := .tuple #[.agg #[.int .i64 (mI (f nm)), .int .i64 (mA (f nm))], .bool (f nm).isSome]) (by simp [results, Tryz.results110, go_sem]) rfl ⟨rfl, rfl⟩
theorem store_func (fn : Fn) (x y : Array Value) (a : Addr) (m : Mode) (w : World) : (store a (.func fn x y) m).run Tryz.prog w = stored Tryz.prog w a (.func fn x y) m := run_store Tryz.prog w a _ m rfl
def F0 : Value := .func (.func 109) #[] #[]
def F1 (g : Nat) : Value := .func (.func 110) #[] #[.pointer (some ⟨g, 0, none⟩)]
set_option maxHeartbeats 4000000 in
set_option maxRecDepth 100000 in
theorem finders_any (b : Nat) (w : World) : Calls Tryz.prog 73 #[.map (some b)] w fun e w' => e = .returned (.agg #[F0, F1 w.heap.size, F1 w.heap.size, F1 w.heap.size]) ∧ w'.cell? ⟨w.heap.size, 0, none⟩ = some (.map (some b)) ∧ Below w.heap.size w w' := by
  have hmf := mkFn
  have hsf := store_func
  go_enter Tryz.func73, Tryz.ntmps73
  go_wp2
  refine bodyPost_ret (v := .agg #[F0, F1 w.heap.size, F1 w.heap.size, F1 w.heap.size]) (by simp [results, Tryz.results73, go_sem]; exact ⟨rfl, rfl⟩) rfl ⟨rfl, by simp [go_sem], lb_alloc (lb_alloc (Below.refl _ _) _) _⟩


end Go.Proofs.YthpkekpojhmaaaaGreatDoor
