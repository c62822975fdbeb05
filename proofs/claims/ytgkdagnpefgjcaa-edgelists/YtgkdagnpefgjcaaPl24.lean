/-
  The flow of an image in memory. slices.Grow of nil and slices.Concat, by what they answer; at most 64 lists, each of at most 65536 numbers. markLabels, by what it marks; each word is of 32 bits.
-/
import Derived.Test.YtgkdagnpefgjcaaProg
import Derived.WalkKit
import Derived.WalkSpells
import Derived.WalkLawsBesides
import Derived.RowKit3
import Derived.Below
import Derived.Deep.QuietTactic
import Derived.BigQuiet
import Derived.WalkSmall
import Derived.Laws.Rows
import Derived.Test.YtgkdagnpefgjcaaPl23
import Derived.Test.YtgkdagnpefgjcaaPl10
import Derived.Test.YtgkdagnpefgjcaaPl22
import Derived.Test.YtgkdagnpefgjcaaPl11
import Derived.Test.YtgkdagnpefgjcaaPl17
import Derived.Lib.AppendZeros
import Derived.Laws.OwnMore
namespace Go.Proofs.Ytgkdagnpefgjcaa
open Go.RowKit

/-- A row of numbers, each as a function tells. -/
def NumsAt (w : World) (g n : Nat) (F : Int → Int) : Prop := ∃ cs : Array Value, w.heap[g]? = some (.cells cs 3 (0, 0)) ∧ cs.size = n ∧ ∀ i : Nat, i < n → cs[i]? = some (.int .i64 (F (i : Int)))
theorem NumsAt.lt {w : World} {g n : Nat} {F : Int → Int} (h : NumsAt w g n F) : g < w.heap.size := by
  obtain ⟨cs, h1, _⟩ := h
  exact (Array.getElem?_eq_some_iff.1 h1).1
theorem NumsAt.keep {w w1 : World} {g n : Nat} {F : Int → Int} (h : NumsAt w g n F) (hb : Below w.heap.size w w1) : NumsAt w1 g n F := by
  obtain ⟨cs, h1, h2⟩ := h
  exact ⟨cs, by rw [hb.block g (Array.getElem?_eq_some_iff.1 h1).1]; exact h1, h2⟩
theorem NumsAt.kept {w w1 : World} {g n : Nat} {F : Int → Int} {row : Option Nat} (h : NumsAt w g n F) (hg : w.grownBy w1 row) (hne : row ≠ some g) : NumsAt w1 g n F := by
  obtain ⟨cs, h1, h2⟩ := h
  exact ⟨cs, by rw [hg.block g (Array.getElem?_eq_some_iff.1 h1).1 (fun e => hne e.symm)]; exact h1, h2⟩
theorem NumsAt.cell {w : World} {g n : Nat} {F : Int → Int} (h : NumsAt w g n F) {x : Int} (h0 : 0 ≤ x) (h1 : x < n) : w.cell? ⟨g, x.toNat, none⟩ = some (.int .i64 (F x)) := by
  obtain ⟨cs, hb, hs, hc⟩ := h
  have := hc x.toNat (by omega)
  rw [show ((x.toNat : Nat) : Int) = x by omega] at this
  simp [World.cell?, hb, this]
theorem NumsAt.fro {w : World} {g n : Nat} {F : Int → Int} (h : NumsAt w g n F) (x : Nat) : w.frozen? ⟨g, x, none⟩ = false := by
  obtain ⟨cs, hb, _⟩ := h
  simp [World.frozen?, hb]
theorem NumsAt.set {w : World} {g n : Nat} {F : Int → Int} (h : NumsAt w g n F) {x : Int} (h0 : 0 ≤ x) (_h1 : x < n) (v : Int) : NumsAt (w.setCell ⟨g, x.toNat, none⟩ (.int .i64 v)) g n (fun y => if y = x then v else F y) := by
  obtain ⟨cs, hb, hs, hc⟩ := h
  refine ⟨cs.setIfInBounds x.toNat (.int .i64 v), box_set hb _ _, by simpa using hs, fun i hi => ?_⟩
  rw [Array.getElem?_setIfInBounds]
  by_cases e : x.toNat = i
  · rw [if_pos e, if_pos (by omega)]
    show _ = some (Value.int .i64 (if _ then _ else _))
    rw [if_pos (by omega)]
  · rw [if_neg e, hc i hi]
    show _ = some (Value.int .i64 (if _ then _ else _))
    rw [if_neg (by omega)]
theorem NumsAt.made (w : World) (n : Nat) : NumsAt (w.alloc (.cells (madeCells #[.int .i64 0] n) 3)) w.heap.size n (fun _ => 0) :=
  ⟨_, heap_alloc_new _ _, by simp [madeCells], fun i hi => by simp [madeCells, hi, Nat.mod_one]⟩
theorem make_nums (n : Nat) (hn : n ≤ 1048576) (w : World) : (Instr.makeSlice 43 (.int .i64 (n : Int)) (.int .i64 (n : Int))).run Try.prog w = .ok (.slice (some ⟨w.heap.size, 0, none⟩) n n) (w.alloc (.cells (madeCells #[.int .i64 0] n) 3)) := by
  obtain ⟨i, hi, hz, hs, hb⟩ := infoI
  have h := run_makeSlice (P := Try.prog) w 43 3 i _ Try.underlying43 hi hz .i64 .i64 (n : Int) (n : Int) (by omega) (by omega) (by rw [hs]; omega) (by rw [hb]; omega) (by omega)
  rw [hs, show ((n : Int)).toNat = n by omega, Nat.mul_one] at h
  exact h
/-- The blocks at whose beginnings a leap can end. -/
def knL (text : List Int) (ent : Int) : List Int := plcT (knK text ent) (blkL text ent).length
/-- The flow of an image, in the block gf. -/
structure Flw (w : World) (gf : Nat) (text : List Int) (ent : Int) (A1 A3 : Option Addr) (c1 gN c3 : Nat) (F : Int → Int) : Prop where
  box : w.heap[gf]? = some (.cells #[.slice A1 (blkL text ent).length c1, .slice (some ⟨gN, 0, none⟩) text.length text.length, .slice A3 (knL text ent).length c3] 58 (0, 0))
  lasts : w.ownsRow 0 51 5 (.slice A1 (blkL text ent).length c1) (blkL text ent).length (lstV (lastL text ent (blkL text ent).length))
  nums : NumsAt w gN text.length F
  num : NumF text ent (blkL text ent).length F
  known : w.ownsRow 0 3 1 (.slice A3 (knL text ent).length c3) (knL text ent).length (iVals .i64 (knL text ent))
def FlowAt (w : World) (gf : Nat) (text : List Int) (ent : Int) : Prop := ∃ (A1 A3 : Option Addr) (c1 gN c3 : Nat) (F : Int → Int), Flw w gf text ent A1 A3 c1 gN c3 F
theorem FlowAt.keep {w w1 : World} {gf : Nat} {text : List Int} {ent : Int} (h : FlowAt w gf text ent) (hb : Below w.heap.size w w1) : FlowAt w1 gf text ent := by
  obtain ⟨A1, A3, c1, gN, c3, F, h⟩ := h
  exact ⟨A1, A3, c1, gN, c3, F, lb_box h.box hb, row_keep h.lasts hb, h.nums.keep hb, h.num, row_keep h.known hb⟩
theorem Flw.last {w : World} {gf : Nat} {text : List Int} {ent : Int} {A1 A3 : Option Addr} {c1 gN c3 : Nat} {F : Int → Int} (h : Flw w gf text ent A1 A3 c1 gN c3 F) {k : Nat} (hk : k < (blkL text ent).length) : ∃ g1, A1 = some ⟨g1, 0, none⟩ ∧ ∀ j u, (insC (lastW text ent k))[j]? = some u → w.cell? ⟨g1, k * 5 + j, none⟩ = some u := by
  rcases h.lasts.2 with ⟨_, h0⟩ | ⟨g, cap, cur, e, _⟩
  · omega
  · injection e with e1 _ _
    refine ⟨g, e1, fun j u hu => ?_⟩
    have hj : j < 5 := by have := (List.getElem?_eq_some_iff.1 hu).1; simpa [insC] using this
    have h2 := lstV_get (l := lastL text ent (blkL text ent).length) (i := k) (j := j) (by rw [lastL_len]; exact hk) hj
    rw [lastL_nth hk, hu] at h2
    have h4 := h.lasts
    rw [e1] at h4
    have h3 := h4.cells (g := g) rfl (k * 5 + j) u h2
    rw [add0] at h3
    exact h3
theorem Flw.cells {w : World} {gf : Nat} {text : List Int} {ent : Int} {A1 A3 : Option Addr} {c1 gN c3 : Nat} {F : Int → Int} (h : Flw w gf text ent A1 A3 c1 gN c3 F) : w.cell? ⟨gf, 0, none⟩ = some (.slice A1 (blkL text ent).length c1) ∧ w.cell? ⟨gf, 1, none⟩ = some (.slice (some ⟨gN, 0, none⟩) text.length text.length) ∧ w.cell? ⟨gf, 2, none⟩ = some (.slice A3 (knL text ent).length c3) :=
  ⟨by simp [World.cell?, h.box], by simp [World.cell?, h.box], by simp [World.cell?, h.box]⟩
/-- A list to be read: of new memory, or the flow's own. -/
def RowR (gf : Nat) (l : List Int) (w : World) (e : Ending) (w' : World) : Prop := ∃ (A : Option Addr) (c : Nat), e = .returned (.slice A l.length c) ∧ w'.ownsRow 0 3 1 (.slice A l.length c) l.length (iVals .i64 l) ∧ Below w.heap.size w w' ∧ ((∀ q, (Value.slice A l.length c).ownBlock = some q → w.heap.size ≤ q) ∨ w.cell? ⟨gf, 2, none⟩ = some (.slice A l.length c))
theorem own_new {A : Option Addr} {n c g m : Nat} (hA : A = some ⟨g, 0, none⟩) (h : m ≤ g) : ∀ q, (Value.slice A n c).ownBlock = some q → m ≤ q := fun q hq => by
  subst hA
  cases hq
  exact h
theorem new_one {w : World} {g : Nat} {x : Int} (hg : g = w.heap.size) : (w.alloc (.cells #[.int .i64 x] 3)).ownsRow 0 3 1 (.slice (some ⟨g, 0, none⟩) 1 1) 1 (iVals .i64 [x]) := by
  subst hg
  exact ⟨rfl, .inr ⟨w.heap.size, 1, _, rfl, Nat.zero_le _, heap_alloc_new _ _, Nat.le_refl _, by unfold maxLen; omega, rfl, rfl⟩⟩
theorem new_pair {w : World} {g : Nat} {x y : Int} (hg : g = w.heap.size) : (w.alloc (.cells #[.int .i64 x, .int .i64 y] 3)).ownsRow 0 3 1 (.slice (some ⟨g, 0, none⟩) 2 2) 2 (iVals .i64 [x, y]) := by
  subst hg
  exact ⟨rfl, .inr ⟨w.heap.size, 2, _, rfl, Nat.zero_le _, heap_alloc_new _ _, Nat.le_refl _, by unfold maxLen; omega, rfl, rfl⟩⟩
def leapB (op : Int) : Bool := op == 18 || op == 19

end Go.Proofs.Ytgkdagnpefgjcaa

namespace Go.Proofs.Ytgkdagnpefgjcaa
open Go.RowKit

open Go.Lib
/-- Lists one behind the other. -/
def catT (L : List (List Int)) (k : Nat) : List Int := (List.range k).flatMap (rowZ L)
theorem catT_zero (L : List (List Int)) : catT L 0 = [] := rfl
theorem catT_succ (L : List (List Int)) (k : Nat) : catT L (k + 1) = catT L k ++ rowZ L k := by simp [catT, List.range_succ]
theorem catT_len {L : List (List Int)} (h : ∀ i, i < L.length → (rowZ L i).length ≤ 65536) : ∀ k, k ≤ L.length → (catT L k).length ≤ 65536 * k
  | 0, _ => by simp [catT_zero]
  | k + 1, hk => by
    have h1 := catT_len h k (by omega)
    have h2 := h k (by omega)
    rw [catT_succ, List.length_append]
    omega
theorem iVals_app (K : IntKind) (a b : List Int) : iVals K (a ++ b) = iVals K a ++ iVals K b := by simp [iVals]
theorem iVals_one (K : IntKind) (l : List Int) : ∀ u ∈ iVals K l, u.oneCell' = true := fun u hu => by
  obtain ⟨x, _, rfl⟩ := List.mem_map.1 hu
  rfl
theorem iVals_len (K : IntKind) (l : List Int) : (iVals K l).length = l.length := by simp [iVals]
theorem wpList_appnil {P : Program} (w : World) {ops : Array Oper} {rest : List Oper} {o : Oper} {a : Act} {Q : Exit → Act → World → Prop} (hgd : o.guard = none) (s x : Operand) (t : TypeId)
    (ho : o.op = .call { callee := .builtin .append, args := #[s, x], argTypes := #[t, t] }) (v : Value) (hs : a.eval s = v) (hx : a.eval x = .slice none 0 0) (hr : ∀ ty, (Builtin.append_ #[t, t] ty #[v, .slice none 0 0]).run P w = .ok v w)
    (h : wpList P ops Q rest (a.put o.dst v) w) : wpList P ops Q (o :: rest) a w :=
  wpList_plain hgd fun K' hK' => by
    unfold Oper.wp execOp
    simp only [ho, resolve, invoke, builtin, Sem.run_bind, Sem.run_pure, Result.andThen_ok, List.map_toArray, List.map_cons, List.map_nil, hs, hx, hr]
    exact hK' _ _ h
/-- An empty list with room. -/
def RoomP (w : World) (e : Ending) (w' : World) : Prop := ∃ (A : Option Addr) (c : Nat), e = .returned (.slice A 0 c) ∧ w'.ownsRow w.heap.size 3 1 (.slice A 0 c) 0 [] ∧ Below w.heap.size w w'
theorem zeroCells_size (n : Nat) : (Builtin.zeroCells #[.int .i64 0] n).size = n := by simp [Builtin.zeroCells]
set_option maxRecDepth 100000 in
set_option maxHeartbeats 1000000 in
theorem grow_nil (n : Nat) (w : World) (hn : n ≤ 16777216) : Calls Try.prog 51 #[.slice none 0 0, .int .i64 (n : Int)] w (RoomP w) := by
  obtain ⟨iI, hi, hz0, hz1, hz2⟩ := infoI
  have h1 : ¬ ((n : Int) < 0) := by omega
  by_cases h0 : n = 0
  · subst h0
    go_enter Try.func51, Try.ntmps51
    go_wp2
    go_ret
    exact ⟨none, 0, rfl, World.ownsRow_nil _ _ _ _, Below.refl _ _⟩
  · have h2 : (0 : Int) < (n : Int) := by omega
    have hb : (n : Int) ≤ 16777216 := by omega
    have hr : ∀ ty, (Builtin.append_ #[43, 3] ty #[.slice none 0 0, .int .i64 (n : Int)]).run Try.prog w = .ok (.slice (some ⟨w.heap.size, 0, none⟩) n (grownCap w n 0 3)) (w.drew.alloc (.cells (Builtin.zeroCells #[.int .i64 0] n ++ Builtin.zeroCells #[.int .i64 0] (grownCap w n 0 3 - n)) 3)) := fun ty =>
      Lib.run_append_nil_zeros w 43 3 ty 3 iI (.int .i64 0) .i64 .i64 Try.underlying43 Try.underlying3 hi hz0 n (by omega) (by omega) (by omega) (by rw [hz2]; omega)
    have hG := grownCap_ge w n 0 3
    have hG2 := grownCap_le_maxLen w n 0 3 (by unfold maxLen; omega)
    generalize grownCap w n 0 3 = G at *
    have HO : Hid ((w.drew.alloc (.cells (Builtin.zeroCells #[.int .i64 0] n ++ Builtin.zeroCells #[.int .i64 0] (G - n)) 3)).ownsRow w.heap.size 3 1 (.slice (some ⟨w.heap.size, 0, none⟩) 0 G) 0 []) :=
      ⟨rfl, .inr ⟨w.heap.size, G, _, rfl, Nat.le_refl _, heap_alloc_new w.drew _, Nat.zero_le _, hG2, by rw [Array.size_append, zeroCells_size, zeroCells_size]; omega, by simp⟩⟩
    have HB : Hid (Below w.heap.size w (w.drew.alloc (.cells (Builtin.zeroCells #[.int .i64 0] n ++ Builtin.zeroCells #[.int .i64 0] (G - n)) 3))) := (Below.refl _ w).drew.alloc (Nat.le_refl _) _
    have hGm : (G : Int) ≤ 9223372036854775807 := by unfold maxLen at hG2; omega
    clear hG2
    go_enter Try.func51, Try.ntmps51
    go_wp2_with (at_builtin; go_loud (refine Lib.wpList_append_run _ rfl (.tmp 20) (.tmp 21) 43 3 rfl (.slice none 0 0) (.int .i64 (n : Int)) rfl rfl _ _ (hr _) ?_))
    go_ret
    exact ⟨_, _, rfl, HO.out, HB.out⟩

set_option maxRecDepth 100000 in
set_option maxHeartbeats 2000000 in
theorem concat_any (base g c : Nat) (vs : List Value) (L : List (List Int)) (w : World) (h : RowsZ w base (.slice (some ⟨g, 0, none⟩) L.length c) vs L) (hn : L.length ≤ 64) (hl : ∀ i, i < L.length → (rowZ L i).length ≤ 65536) :
    Calls Try.prog 39 #[.slice (some ⟨g, 0, none⟩) L.length c] w (RowP (catT L L.length) w) := by
  obtain ⟨iI, hi, hz0, hz1, hz2⟩ := infoI
  have HL : Hid (∀ k, k ≤ L.length → (catT L k).length ≤ 65536 * k) := fun k hk => catT_len hl k hk
  have HC : Hid (∀ i, i < L.length → ∃ (R : Option Addr) (k : Nat), w.cell? ⟨g, i, none⟩ = some (.slice R (rowZ L i).length k) ∧ w.ownsRow base 3 1 (.slice R (rowZ L i).length k) (rowZ L i).length (iVals .i64 (rowZ L i))) := fun i hi => by
    obtain ⟨R, k, e⟩ := own_form (h.row i hi)
    have hvl := h.len
    have hc := h.bag.cells (g := g) rfl i (vn vs i) (by unfold vn; rw [List.getD_eq_getElem?_getD, List.getElem?_eq_getElem (by omega)]; rfl)
    rw [add0] at hc
    refine ⟨R, k, by rw [hc, e], ?_⟩
    rw [← e]
    exact h.row i hi
  have HR : Hid _ := hl
  clear h hl
  go_enter Try.func39, Try.ntmps39
  go_wp2
  go_loopw [3, 11] (fun s i wr => ∃ k : Nat, i = .int .i64 k ∧ s = .int .i64 (((catT L k).length : Nat) : Int) ∧ k ≤ L.length ∧ w = wr) (fun _ i _ => L.length - (intOf i).toNat)
  case atStart => exact ⟨0, rfl, rfl, Nat.zero_le _, rfl⟩
  case round =>
    obtain ⟨k, rfl, rfl, hk, rfl⟩ := hrel
    have hb0 := HL.out k hk
    by_cases hlt : k < L.length
    · have hlt' : (k : Int) < (L.length : Int) := by omega
      obtain ⟨R, kr, hc, _⟩ := HC.out k hlt
      have hb1 := HR.out k hlt
      have HS : Hid ((((catT L (k + 1)).length : Nat) : Int) = ((catT L k).length : Int) + ((rowZ L k).length : Int)) := by unfold Hid; rw [catT_succ, List.length_append]; omega
      have hns : ¬ (((catT L k).length : Int) + ((rowZ L k).length : Int) < 0) := by omega
      generalize (catT L k).length = x at *
      generalize (rowZ L k).length = y at *
      have hx : (x : Int) ≤ 4194304 := by omega
      have hy : (y : Int) ≤ 65536 := by omega
      go_wp2
      go_roundw
      case rel => exact ⟨k + 1, by go_num, by rw [HS.out], by omega, by first | rfl | trivial⟩
      case measure => simp [intOf]; omega
    · obtain rfl : k = L.length := by omega
      have C := grow_nil (catT L L.length).length w (by omega)
      generalize (catT L L.length).length = x at *
      go_wp2_with (go_at_call 51; refine C.mono ?_; rintro e w1 ⟨A, c1, rfl, hown, hb1⟩; have HO : Hid (w1.ownsRow w.heap.size 3 1 (.slice A 0 c1) 0 []) := hown; have HB : Hid (Below w.heap.size w w1) := hb1; clear hown hb1)
      go_loopw [6, 27] (fun v i wr => ∃ (k : Nat) (O : Option Addr) (cc : Nat), i = .int .i64 k ∧ v = .slice O (catT L k).length cc ∧ k ≤ L.length ∧ Hid (wr.ownsRow w.heap.size 3 1 v (catT L k).length (iVals .i64 (catT L k))) ∧ Hid (Below w.heap.size w wr)) (fun _ i _ => L.length - (intOf i).toNat)
      case atStart => exact ⟨0, A, c1, rfl, rfl, Nat.zero_le _, HO, HB⟩
      case round =>
        clear HO HB C
        obtain ⟨k, O, cc, rfl, rfl, hk, HO, HB⟩ := hrel
        by_cases hlt : k < L.length
        · have hlt' : (k : Int) < (L.length : Int) := by omega
          obtain ⟨R, kr, hc, hrow⟩ := HC.out k hlt
          replace hc := lkeep HB.out hc
          have hb0 := HL.out k hk
          have hb1 := HR.out k hlt
          have HS : Hid (catT L (k + 1) = catT L k ++ rowZ L k) := catT_succ L k
          have HI : Hid (IntsAt wr R .i64 (rowZ L k)) := (row_ints hrow).keep HB.out
          cases R with
          | none =>
            have h00 : (rowZ L k).length = 0 ∧ kr = 0 := by
              rcases hrow.2 with ⟨e, h0⟩ | ⟨g2, cap, cur, e, _⟩
              · injection e with _ _ e3; exact ⟨h0, e3⟩
              · cases e
            have HNil : Hid (catT L (k + 1) = catT L k) := by unfold Hid; rw [HS.out, List.length_eq_zero_iff.1 h00.1, List.append_nil]
            have hr : ∀ ty, (Builtin.append_ #[43, 43] ty #[.slice O (catT L k).length cc, .slice none 0 0]).run Try.prog wr = .ok (.slice O (catT L k).length cc) wr := fun ty => run_append_owned_none (P := Try.prog) (w := wr) w.heap.size 43 ty 3 iI 1 Try.underlying43 hi (.slice O (catT L k).length cc) (catT L k).length (iVals .i64 (catT L k)) HO.out
            rw [h00.1, h00.2] at hc
            clear hrow h00
            generalize catT L k = P at *
            go_wp2_with (at_builtin; go_loud (refine wpList_appnil _ rfl (.tmp 31) (.tmp 32) 43 rfl (.slice O P.length cc) rfl rfl hr ?_))
            go_roundw
            case rel => exact ⟨k + 1, O, cc, by go_num, by rw [HNil.out], by omega, by rw [HNil.out]; exact HO, HB⟩
            case measure => simp [intOf]; omega
          | some a =>
            clear hrow
            have hlen : (catT L k).length + (rowZ L k).length ≤ 8388608 := by omega
            generalize catT L k = P at *
            generalize rowZ L k = Q at *
            go_upto_region 14 with (at_builtin; go_loud (refine wpList_append_own _ rfl (.tmp 31) (.tmp 32) 43 rfl w.heap.size 3 iI (.int .i64 0) 1 8 Try.underlying43 hi hz0 hz1 hz2 rfl (by decide) (.slice O P.length cc) P.length (iVals .i64 P) rfl HO.out a Q.length kr (iVals .i64 Q) rfl (by rw [iVals_len]; omega) (fun j u hu => by obtain ⟨hj, e⟩ := List.getElem?_eq_some_iff.1 hu; rw [iVals_len] at hj; obtain ⟨a2, ea, q⟩ := HI.out j hj; obtain rfl := Option.some.inj ea; rw [iVals_get hj] at hu; rw [q]; exact hu) (iVals_one _ _) (by unfold maxLen; omega) (by omega) HB.out.size ?_; intro v3 w4 hown hgrow _; have HR3 : Hid (w4.ownsRow w.heap.size 3 1 v3 (P ++ Q).length (iVals .i64 (P ++ Q))) := (by rw [Hid, iVals_app, List.length_append]; exact hown); have HB3 : Hid (Below w.heap.size w w4) := HB.out.grown hgrow HB.out.size (fun b hb => (HO.out.lt b hb).1); clear hown hgrow))
            obtain ⟨A5, c5, e5⟩ := own_form HR3.out
            subst e5
            go_wp2
            go_roundw
            case rel => exact ⟨k + 1, A5, c5, by go_num, by rw [HS.out], by omega, by rw [HS.out]; exact HR3, HB3⟩
            case measure => simp [intOf]; omega
        · obtain rfl : k = L.length := by omega
          go_wp2
          go_ret
          exact ⟨O, cc, rfl, HO.out, HB.out⟩

end Go.Proofs.Ytgkdagnpefgjcaa

namespace Go.Proofs.Ytgkdagnpefgjcaa
open Go.RowKit

set_option maxRecDepth 100000 in
set_option maxHeartbeats 2000000 in
theorem marklabels_any (A1 A2 : Option Addr) (c1 ml c2 : Nat) (ent : Int) (text : List Int) (b n : Nat) (f : Int → Bool) (w : World) (hT : IntsAt w A1 .u32 text) (hR : ∀ i, i < text.length → 0 ≤ nth text i ∧ nth text i < 4294967296) (hl : text.length ≤ 1048576) (he0 : 0 ≤ ent) (he1 : ent ≤ 1048576) (hk : Mks w b n f) (hn : n ≤ 1000000000) :
    Calls Try.prog 56 #[.agg #[.slice A1 text.length c1, .int .i64 ent, .slice A2 ml c2], .map (some b)] w (MkP b (n + 1 + text.length) (addK (setF f ent) (gLab text) text.length) w) := by
  obtain ⟨W, HW⟩ : ∃ W, Hid (w.alloc (.cells #[.slice A1 text.length c1, .int .i64 ent, .slice A2 ml c2] 25) = W) := ⟨_, rfl⟩
  have HB : Hid (Below w.heap.size w W) := by unfold Hid; rw [← HW.out]; exact lb_alloc (Below.refl _ _) _
  have i0 : W.cell? ⟨w.heap.size, 0, none⟩ = some (.slice A1 text.length c1) := by rw [← HW.out]; simp [go_sem]
  have i1 : W.cell? ⟨w.heap.size, 1, none⟩ = some (.int .i64 ent) := by rw [← HW.out]; simp [go_sem]
  have HT : Hid (IntsAt w A1 .u32 text) := hT
  have HK0 : Hid (Mks w b n f) := hk
  have HKW : Hid (Mks W b n f) := hk.keep HB.out
  have HR : Hid _ := hR
  clear hT hk hR
  go_enter Try.func56, Try.ntmps56
  go_upto_region 1 with fail
  rw [HW.out]
  clear HW
  go_wp2_with fail
  refine (mark_any b n f ent W HKW.out (by omega) (by omega) (by omega)).mono ?_
  rintro e w1 ⟨rfl, hk1, hg1⟩
  have j0 := HKW.out.cell hg1 i0
  have HK1 : Hid (Mks w1 b (n + 1) (addK (setF f ent) (gLab text) 0)) := hk1.fit fun y => (addK_zero _ _ y).symm
  have HG1 : Hid (w.grownBy w1 (some b)) := (grown_of HB.out).trans hg1
  clear i0 i1 hk1 hg1
  go_wp2
  go_loopw [15] (fun i wr => ∃ (k m : Nat), i = .int .i64 k ∧ k ≤ text.length ∧ m ≤ n + 1 + k ∧ Hid (Mks wr b m (addK (setF f ent) (gLab text) k)) ∧ Hid (w.grownBy wr (some b))) (fun i _ => text.length - (intOf i).toNat)
  case atStart => exact ⟨0, n + 1, rfl, Nat.zero_le _, Nat.le_refl _, HK1, HG1⟩
  case round =>
    clear HK1 HG1 j0
    obtain ⟨k, m, rfl, hk, hm, HK, HG⟩ := hrel
    by_cases hlt : k < text.length
    · obtain ⟨a, rfl, q⟩ := (HK0.out.ints HG.out HT.out) k hlt
      obtain ⟨hv0, hv1⟩ := HR.out k hlt
      have C := isatarget_any (nth text k) hv0 hv1 wr
      have HY : Hid (isT (nth text k) = true → gLab text k = some (tgV (nth text k)) ∧ 0 ≤ tgV (nth text k) ∧ tgV (nth text k) < 16384) := fun h => ⟨gLab_yes h, tg_pos h⟩
      have HN : Hid (isT (nth text k) = false → gLab text k = none) := gLab_no
      generalize nth text k = v at *
      generalize isT v = t at *
      generalize tgV v = z at *
      cases t with
      | false =>
        have HG0 : Hid (gLab text k = none) := HN.out rfl
        clear HY HN
        go_wp2_with (go_at_call 63; refine C.mono ?_; rintro e w2 ⟨rfl, hb2⟩)
        go_roundw
        case rel => exact ⟨k + 1, m, by go_num, by omega, by omega, (HK.out.keep hb2).fit (addK_none HG0.out), grown_on HG.out hb2⟩
        case measure => simp [intOf]; omega
      | true =>
        obtain ⟨hg, hz0, hz1⟩ := HY.out rfl
        have HG0 : Hid (gLab text k = some z) := hg
        clear HY HN hg
        go_wp2_with (first
          | (go_at_call 63; refine C.mono ?_; rintro e w2 ⟨rfl, hb2⟩)
          | (go_at_call 55; refine (mark_any b m _ z _ (HK.out.keep hb2) (by omega) (by omega) (by omega)).mono ?_; rintro e w3 ⟨rfl, hk3, hg3⟩))
        go_roundw
        case rel => exact ⟨k + 1, m + 1, by go_num, by omega, by omega, hk3.fit (addK_some HG0.out), (grown_on HG.out hb2).trans hg3⟩
        case measure => simp [intOf]; omega
    · obtain rfl : k = text.length := by omega
      go_wp2
      refine bodyPost_end (v := .tuple #[]) (by simp [results, Try.results56, go_sem]) rfl ?_
      exact ⟨rfl, HK.out.more hm, HG.out⟩


end Go.Proofs.Ytgkdagnpefgjcaa
