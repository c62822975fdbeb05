/-
  Insert of one number, and where it belongs, off the library's shelf. places. mayBe.
-/
import Derived.Test.YtkdafkdogmemcaaDoorProg
import Derived.WalkKit
import Derived.WalkSpells
import Derived.WalkLawsBesides
import Derived.RowKit3
import Derived.Below
import Derived.Deep.QuietTactic
import Derived.BigQuiet
import Derived.WalkSmall
import Derived.Laws.Rows
import Derived.Test.YtkdafkdogmemcaaDoorPs04
import Derived.Test.YtkdafkdogmemcaaDoorPs03
import Derived.Lib.BufferOwn
import Derived.OwnWalk
import Derived.Deep.Cut
import Derived.Deep.RegionHeld3
namespace Go.Proofs.YtkdafkdogmemcaaDoor
open Go.RowKit

theorem heap_setCells1 {e : TypeId} (g : Nat) : ∀ (vs : List Value) (o : Nat) (w : World) (cs : Array Value), w.heap[g]? = some (.cells cs e (0, 0)) → ∃ cs', (w.setCells g o vs).heap[g]? = some (.cells cs' e (0, 0)) ∧ cs'.size = cs.size
  | [], _, _, cs, h => ⟨cs, h, rfl⟩
  | v :: r, o, w, cs, h => by
    obtain ⟨cs', h1, h2⟩ := heap_setCells1 (e := e) g r (o + 1) (w.setCell ⟨g, o, none⟩ v) _ (heap_setCell_same w g o cs e v h)
    exact ⟨cs', h1, by rw [h2, Array.size_setIfInBounds]⟩
theorem grown_setCells1 (g : Nat) : ∀ (vs : List Value) (o : Nat) (a w : World), a.grownBy w (some g) → a.grownBy (w.setCells g o vs) (some g)
  | [], _, _, _, h => h
  | v :: r, o, a, _w, h => grown_setCells1 g r (o + 1) a _ (Lib.grownBy_setB h o v)
theorem cell_gone {w : World} {g j : Nat} {cs : Array Value} {e : TypeId} (h : w.heap[g]? = some (.cells cs e (0, 0))) {u : Value} (hu : w.cell? ⟨g, j, none⟩ = some u) : cs[j]? = some u := by
  rw [cell_of_row w g j cs e (0, 0) h] at hu
  exact hu
/-- A row, from its cells. -/
theorem own_cells {w : World} {base g n cap : Nat} {e : TypeId} {cur : Array Value} {xs : List Value} (hb : base ≤ g) (h : w.heap[g]? = some (.cells cur e (0, 0))) (h1 : n ≤ cap) (h2 : cap ≤ maxLen) (h3 : cur.size = cap) (h4 : xs.length = n) (h5 : ∀ j v, xs[j]? = some v → w.cell? ⟨g, j, none⟩ = some v) : w.ownsRow base e 1 (.slice (some ⟨g, 0, none⟩) n cap) n xs := by
  refine ⟨by rw [h4, Nat.mul_one], .inr ⟨g, cap, cur, rfl, hb, h, h1, h2, by rw [h3, Nat.mul_one], ?_⟩⟩
  rw [Nat.mul_one]
  refine List.ext_getElem? fun j => ?_
  rw [List.getElem?_take]
  by_cases hj : j < n
  · rw [if_pos hj, List.getElem?_eq_getElem (show j < xs.length by omega)]
    have := cell_gone h (h5 j _ (List.getElem?_eq_getElem (show j < xs.length by omega)))
    rw [← Array.getElem?_toList] at this
    exact this
  · rw [if_neg hj, List.getElem?_eq_none (by omega)]
/-- What the row holds with one more number at place i. -/
def insV (L : List Int) (i : Nat) (x : Int) : List Int := L.take i ++ x :: L.drop i
theorem insV_len {L : List Int} {i : Nat} (x : Int) (h : i ≤ L.length) : (insV L i x).length = L.length + 1 := by simp [insV]; omega
theorem iV_len (L : List Int) : (iVals .i64 L).length = L.length := by simp [iVals]
theorem iV_one (L : List Int) : ∀ u ∈ iVals .i64 L, u.oneCell' = true := fun u hu => by
  obtain ⟨x, _, rfl⟩ := List.mem_map.1 hu
  rfl
theorem insV_get {L : List Int} {i j : Nat} {x : Int} {v : Value} (hi : i ≤ L.length) (h : (iVals .i64 (insV L i x))[j]? = some v) : (j < i ∧ (iVals .i64 L)[j]? = some v) ∨ (j = i ∧ v = .int .i64 x) ∨ (i < j ∧ j ≤ L.length ∧ (iVals .i64 L)[j - 1]? = some v) := by
  unfold iVals insV at h
  rw [List.map_append, List.map_cons] at h
  have hl : ((L.take i).map (Value.int .i64)).length = i := by rw [List.length_map, List.length_take]; omega
  by_cases h1 : j < i
  · rw [List.getElem?_append_left (by omega)] at h
    left
    refine ⟨h1, ?_⟩
    rw [List.getElem?_map, List.getElem?_take, if_pos h1] at h
    unfold iVals
    rw [List.getElem?_map]
    exact h
  · rw [List.getElem?_append_right (by omega), hl] at h
    by_cases h2 : j = i
    · subst h2
      rw [Nat.sub_self] at h
      exact .inr (.inl ⟨rfl, by simpa using h.symm⟩)
    · right; right
      obtain ⟨q, hq⟩ : ∃ q, j - i = q + 1 := ⟨j - i - 1, by omega⟩
      rw [hq, List.getElem?_cons_succ] at h
      have hlt : q < ((L.drop i).map (Value.int .i64)).length := by
        by_cases c : q < ((L.drop i).map (Value.int .i64)).length
        · exact c
        · rw [List.getElem?_eq_none (by omega)] at h; cases h
      rw [List.length_map, List.length_drop] at hlt
      refine ⟨by omega, by omega, ?_⟩
      rw [List.getElem?_map, List.getElem?_drop] at h
      unfold iVals
      rw [List.getElem?_map, show j - 1 = i + q by omega]
      exact h
/-- What Insert answers. -/
def InsP (B : Nat) (V : Value) (L : List Int) (i : Nat) (x : Int) (w : World) (e : Ending) (w' : World) : Prop := ∃ (A : Option Addr) (c : Nat), e = .returned (.slice A (L.length + 1) c) ∧ w'.ownsRow B 3 1 (.slice A (L.length + 1) c) (L.length + 1) (iVals .i64 (insV L i x)) ∧ w.grownBy w' V.ownBlock
set_option maxHeartbeats 4000000 in
theorem insert_any (B : Nat) (A : Option Addr) (c vb vc : Nat) (L : List Int) (i : Nat) (x : Int) (tv : TypeId) (w : World) (hr : w.ownsRow B 3 1 (.slice A L.length c) L.length (iVals .i64 L)) (hB : B ≤ w.heap.size) (hi : i ≤ L.length) (hl : L.length ≤ 1048576)
    (hv : w.heap[vb]? = some (.cells #[.int .i64 x] tv (0, 0))) (hne : ∀ g, A = some ⟨g, 0, none⟩ → vb ≠ g) :
    Calls Tryd.prog 43 #[.slice A L.length c, .int .i64 (i : Int), .slice (some ⟨vb, 0, none⟩) 1 vc] w (InsP B (.slice A L.length c) L i x w) := by
  have hvs : ∀ (j : Nat) (v : Value), [Value.int .i64 x][j]? = some v → w.cell? ⟨vb, 0 + j, none⟩ = some v := fun j v h => by
    rw [cell_of_row w vb (0 + j) _ tv (0, 0) hv]
    cases j with
    | zero => simpa using h
    | succ j => simp at h
  have h1v : ∀ v ∈ [Value.int .i64 x], v.oneCell' = true := fun v h => by rw [List.mem_singleton.1 h]; rfl
  have grow : ∀ C, grownCap w (L.length + 1) C 3 ≤ maxLen := fun C => grownCap_le_maxLen w _ C 3 (by unfold maxLen; omega)
  have growg : ∀ C, L.length + 1 ≤ grownCap w (L.length + 1) C 3 := fun C => grownCap_ge w _ C 3
  have zl : ∀ k, (Builtin.zeroCells (Value.int .i64 0).cells k).size = k := fun k => by rw [size_zeroCells]; simp [Value.cells]
  -- the row is made anew, at its end
  have endgrow : ∀ (hi : i = L.length) (hc : c < L.length + 1) (hlc : L.length ≤ c), (A = none → L.length = 0) → (∀ a, A = some a → ∀ j v, (iVals .i64 L)[j]? = some v → w.cell? (a.add j) = some v) → Calls Tryd.prog 43 #[.slice A L.length c, .int .i64 (i : Int), .slice (some ⟨vb, 0, none⟩) 1 vc] w (InsP B (.slice A L.length c) L i x w) := by
    intro hi hc hlc hn hcs
    subst hi
    refine (Any2.slices_Insert_int_end_grow Tryd.layI A L.length c vb 0 1 vc (iVals .i64 L) [.int .i64 x] w (by decide) hlc hc (by omega) (iV_len L) rfl hn hcs hvs h1v).mono ?_
    rintro e w' ⟨rfl, rfl⟩
    rw [show Tryd.layI_ren.t 3 = 3 from rfl]
    refine ⟨_, _, rfl, ?_, ?_⟩
    · have hh : (w.drew.alloc (.cells ((iVals .i64 L ++ [Value.int .i64 x]).toArray ++ Builtin.zeroCells (Value.int .i64 0).cells (grownCap w (L.length + 1) c 3 - (L.length + 1))) 3)).heap[w.heap.size]? = some (.cells _ 3 (0, 0)) := heap_alloc_new w.drew _
      refine own_cells hB hh (growg c) (grow c) ?_ ?_ ?_
      · rw [Array.size_append, zl, List.size_toArray, List.length_append, iV_len]
        have := growg c
        show L.length + 1 + _ = _
        omega
      · rw [iV_len, insV_len x (Nat.le_refl _)]
      · intro j v hj
        rw [cell_of_row _ _ j _ 3 (0, 0) hh]
        have hjl : j < L.length + 1 := by
          by_cases c : j < (iVals .i64 (insV L L.length x)).length
          · rw [iV_len, insV_len x (Nat.le_refl _)] at c; exact c
          · rw [List.getElem?_eq_none (by omega)] at hj; cases hj
        rw [Array.getElem?_append_left (by rw [List.size_toArray, List.length_append, iV_len]; exact hjl), List.getElem?_toArray]
        have : insV L L.length x = L ++ [x] := by simp [insV]
        rw [this, iVals_snoc] at hj
        exact hj
    · exact ⟨rfl, rfl, rfl, by simp, fun k hk _ => heap_alloc_old w.drew _ hk⟩
  rcases hr.2 with ⟨e0, h0⟩ | ⟨g, cap, cur, e0, hb, hg, hn, hm, hsz, htake⟩
  · rw [Value.slice.injEq] at e0
    obtain ⟨rfl, -, rfl⟩ := e0
    exact endgrow (by omega) (by omega) (by omega) (fun _ => h0) (fun a h => by cases h)
  · rw [Value.slice.injEq] at e0
    obtain ⟨rfl, -, rfl⟩ := e0
    rw [Nat.mul_one] at hsz
    have hgl : g < w.heap.size := (Array.getElem?_eq_some_iff.1 hg).1
    have hcs : ∀ (j : Nat) (v : Value), (iVals .i64 L)[j]? = some v → w.cell? ⟨g, j, none⟩ = some v := fun j v hj => by
      have := hr.cells rfl j v hj
      rw [Addr.add_lit, Nat.zero_add] at this
      exact this
    have hcs0 : ∀ (j : Nat) (v : Value), (iVals .i64 L)[j]? = some v → w.cell? ⟨g, 0 + j, none⟩ = some v := fun j v hj => by rw [Nat.zero_add]; exact hcs j v hj
    have hsome : ∀ j, j < c → (w.cell? ⟨g, 0 + j, none⟩).isSome = true := fun j hj => by
      rw [Nat.zero_add, cell_of_row w g j cur 3 (0, 0) hg, Array.getElem?_eq_getElem (by omega)]; rfl
    have hfz : ∀ j, w.frozen? ⟨g, j, none⟩ = false := fun j => frozen_of_row w g j cur 3 hg
    have hvb := hne g rfl
    have hc63 : c ≤ 9223372036854775807 := by unfold maxLen at hm; omega
    by_cases hie : i = L.length
    · by_cases hc : L.length + 1 ≤ c
      · subst hie
        refine (Any2.slices_Insert_int_end_room Tryd.layI g 0 L.length c vb 0 1 vc [.int .i64 x] w (by decide) hc hc63 rfl (fun j hj => by have := hsome (L.length + j) (by omega); rw [← Nat.add_assoc] at this; exact this) (fun j _ => hfz _) hvs h1v).mono ?_
        rintro e w' ⟨rfl, rfl⟩
        refine ⟨_, _, rfl, ?_, grown_setCells1 g _ _ w w (World.grownBy.refl w _)⟩
        obtain ⟨cs', h1, h2⟩ := heap_setCells1 g [Value.int .i64 x] (0 + L.length) w cur hg
        refine own_cells hb h1 hc hm (by rw [h2, hsz]) (by rw [iV_len, insV_len x (Nat.le_refl _)]) ?_
        intro j v hj
        rcases insV_get (Nat.le_refl _) hj with ⟨a, b⟩ | ⟨rfl, rfl⟩ | ⟨a, b, _⟩
        · rw [World.cell?_setCells_out g _ _ w _ (fun _ _ => .inl (by show j < _; omega))]
          exact hcs j v b
        · have := World.cell?_setCells_in g [Value.int .i64 x] (0 + L.length) w (fun j hj => by have := hsome (L.length + j) (by simp at hj; omega); rw [← Nat.add_assoc] at this; exact this) 0 (by simp)
          rw [Nat.add_zero, Nat.zero_add] at this
          rw [Nat.zero_add]
          exact this
        · omega
      · exact endgrow hie (by omega) hn (fun h => by cases h) (fun a h j v hj => by cases h; rw [Addr.add_lit, Nat.zero_add]; exact hcs j v hj)
    · have hil : i < L.length := by omega
      have hdl : ((iVals .i64 L).drop i).length = L.length - i := by rw [List.length_drop, iV_len]
      by_cases hc : L.length + 1 ≤ c
      · refine (Any2.slices_Insert_int_shift Tryd.layI g 0 L.length c i vb 0 1 vc (iVals .i64 L) [.int .i64 x] w hil (by decide) hc hc63 hvb (iV_len L) rfl hcs0 (fun j hj => hsome j (by omega)) (fun j _ => hfz _) hvs (iV_one L) h1v tv 3 1 c (by unfold World.shape?; rw [hv]; rfl) (by unfold World.shape?; rw [hg]; show some (_, cur.size) = _; rw [hsz]) (by omega) (frozen_of_row w vb _ _ tv hv) (frozen_of_row w vb _ _ tv hv)).mono ?_
        rintro e w' ⟨rfl, rfl⟩
        refine ⟨_, _, rfl, ?_, grown_setCells1 g _ _ w _ (grown_setCells1 g _ _ w _ ⟨rfl, rfl, rfl, Nat.le_refl _, fun _ _ _ => rfl⟩)⟩
        obtain ⟨c1, h1, h2⟩ := heap_setCells1 g ((iVals .i64 L).drop i) (0 + (i + 1)) w.drew cur hg
        obtain ⟨c2, h3, h4⟩ := heap_setCells1 g [Value.int .i64 x] (0 + i) _ c1 h1
        refine own_cells hb h3 hc hm (by rw [h4, h2, hsz]) (by rw [iV_len, insV_len x hi]) ?_
        intro j v hj
        rcases insV_get hi hj with ⟨a, b⟩ | ⟨rfl, rfl⟩ | ⟨a, b, d⟩
        · rw [World.cell?_setCells_out g _ _ _ _ (fun _ _ => .inl (by show j < _; omega)), World.cell?_setCells_out g _ _ _ _ (fun _ _ => .inl (by show j < _; omega))]
          exact hcs j v b
        · have := World.cell?_setCells_in g [Value.int .i64 x] (0 + j) _ (fun q hq => by
            obtain rfl : q = 0 := by simpa using hq
            rw [Nat.add_zero, Nat.zero_add, cell_of_row _ g j c1 3 (0, 0) h1, Array.getElem?_eq_getElem (by rw [h2]; omega)]; rfl) 0 (by simp)
          rw [Nat.add_zero] at this
          rw [show (⟨g, j, none⟩ : Addr) = ⟨g, 0 + j, none⟩ by rw [Nat.zero_add]]
          exact this
        · rw [World.cell?_setCells_out g _ _ _ _ (fun _ _ => .inr (by show 0 + i + 1 ≤ j; omega))]
          have := World.cell?_setCells_in g ((iVals .i64 L).drop i) (0 + (i + 1)) w.drew (fun q hq => by
            rw [hdl] at hq
            have := hsome (i + 1 + q) (by omega)
            rw [← Nat.add_assoc] at this
            exact this) (j - 1 - i) (by rw [hdl]; omega)
          rw [show 0 + (i + 1) + (j - 1 - i) = j by omega] at this
          rw [this, List.getElem_drop]
          have e : i + (j - 1 - i) = j - 1 := by omega
          simp only [e]
          exact (List.getElem?_eq_some_iff.1 d).2 ▸ rfl
      · refine (Any2.slices_Insert_int_grow Tryd.layI g 0 L.length c i vb 0 1 vc (iVals .i64 L) [.int .i64 x] w hil (by decide) hn (by omega) (by omega) (iV_len L) rfl hcs0 hvs (iV_one L) h1v).mono ?_
        rintro e w' ⟨rfl, rfl⟩
        have er : Tryd.layI_ren.t 3 = 3 := rfl
        rw [er]
        obtain ⟨G, hG⟩ : ∃ G, G = grownCap w (L.length + 1) c 3 := ⟨_, rfl⟩
        have hG1 := growg c
        have hG2 := grow c
        rw [← hG] at hG1 hG2 ⊢
        obtain ⟨R, hR⟩ : ∃ R : Array Value, R = ((iVals .i64 L).take i).toArray ++ Builtin.zeroCells (Value.int .i64 0).cells (L.length + 1 - i) ++ Builtin.zeroCells (Value.int .i64 0).cells (G - (L.length + 1)) := ⟨_, rfl⟩
        have hRl : R.size = G := by
          rw [hR, Array.size_append, Array.size_append, zl, zl, List.size_toArray, List.length_take, iV_len]
          omega
        have hR1 : ∀ j v, j < i → (iVals .i64 L)[j]? = some v → R[j]? = some v := fun j v hj hv => by
          rw [hR, Array.getElem?_append_left (by rw [Array.size_append, zl, List.size_toArray, List.length_take, iV_len]; omega), Array.getElem?_append_left (by rw [List.size_toArray, List.length_take, iV_len]; omega), List.getElem?_toArray, List.getElem?_take, if_pos hj]
          exact hv
        rw [← hR]
        obtain ⟨W1, hW1⟩ : ∃ W1, W1 = (w.alloc (.cells R 3)).drew := ⟨_, rfl⟩
        rw [← hW1]
        have h1 : W1.heap[w.heap.size]? = some (.cells R 3 (0, 0)) := by rw [hW1]; exact heap_alloc_new w _
        have gr : w.grownBy W1 (some w.heap.size) := by rw [hW1]; exact ⟨rfl, rfl, rfl, by show _ ≤ (w.alloc _).heap.size; simp, fun k hk _ => heap_alloc_old w _ hk⟩
        obtain ⟨c1, h2, h3⟩ := heap_setCells1 w.heap.size [Value.int .i64 x] i W1 R h1
        obtain ⟨c2, h4, h5⟩ := heap_setCells1 w.heap.size ((iVals .i64 L).drop i) (i + 1) (W1.setCells w.heap.size i [Value.int .i64 x]).drew c1 h2
        have gr1 := grown_setCells1 w.heap.size [Value.int .i64 x] i w W1 gr
        have gr2 : w.grownBy (W1.setCells w.heap.size i [Value.int .i64 x]).drew (some w.heap.size) := ⟨gr1.os, gr1.tape, gr1.output, gr1.size, gr1.block⟩
        have gr3 := grown_setCells1 w.heap.size ((iVals .i64 L).drop i) (i + 1) w _ gr2
        refine ⟨_, _, rfl, ?_, ⟨gr3.os, gr3.tape, gr3.output, gr3.size, fun k hk _ => gr3.block k hk (fun h => by cases h; omega)⟩⟩
        refine own_cells hB h4 hG1 hG2 (by rw [h5, h3, hRl]) (by rw [iV_len, insV_len x hi]) ?_
        intro j v hj
        rcases insV_get hi hj with ⟨a, b⟩ | ⟨rfl, rfl⟩ | ⟨a, b, d⟩
        · rw [World.cell?_setCells_out _ _ _ _ _ (fun _ _ => .inl (by show j < _; omega))]
          show (W1.setCells _ _ _).cell? _ = _
          rw [World.cell?_setCells_out _ _ _ _ _ (fun _ _ => .inl (by show j < _; omega)), cell_of_row W1 _ j R 3 (0, 0) h1]
          exact hR1 j v a b
        · rw [World.cell?_setCells_out _ _ _ _ _ (fun _ _ => .inl (by show j < _; omega))]
          show (W1.setCells _ _ _).cell? _ = _
          have := World.cell?_setCells_in w.heap.size [Value.int .i64 x] j W1 (fun q hq => by
            obtain rfl : q = 0 := by simpa using hq
            rw [Nat.add_zero, cell_of_row _ _ j R 3 (0, 0) h1, Array.getElem?_eq_getElem (by rw [hRl]; omega)]; rfl) 0 (by simp)
          rw [Nat.add_zero] at this
          exact this
        · have := World.cell?_setCells_in w.heap.size ((iVals .i64 L).drop i) (i + 1) (W1.setCells w.heap.size i [Value.int .i64 x]).drew (fun q hq => by
            rw [hdl] at hq
            show ((W1.setCells _ _ _).cell? _).isSome = true
            rw [cell_of_row _ _ _ c1 3 (0, 0) h2, Array.getElem?_eq_getElem (by rw [h3, hRl]; omega)]; rfl) (j - 1 - i) (by rw [hdl]; omega)
          rw [show i + 1 + (j - 1 - i) = j by omega] at this
          rw [this, List.getElem_drop]
          have e : i + (j - 1 - i) = j - 1 := by omega
          simp only [e]
          exact (List.getElem?_eq_some_iff.1 d).2 ▸ rfl
/-- Where a number belongs. -/
theorem search_any (A : Option Addr) (c : Nat) (L : List Int) (x : Int) (w : World) (hA : ∀ j, j < L.length → ∃ g, A = some ⟨g, 0, none⟩ ∧ w.cell? ⟨g, j, none⟩ = some (.int .i64 (L.getD j 0))) (hs : Srt L) (hl : L.length ≤ 1048576) :
    Calls Tryd.prog 52 #[.slice A L.length c, .int .i64 x] w fun e w' => (∃ b : Bool, e = .returned (.tuple #[.int .i64 ((frN L x : Nat) : Int), .bool b])) ∧ Below w.heap.size w w' := by
  cases L with
  | nil =>
    refine (Any.slices_BinarySearch_int_empty Tryd.layB A c x w).mono ?_
    rintro e w' ⟨rfl, rfl⟩
    exact ⟨⟨_, rfl⟩, Below.refl _ _⟩
  | cons y M =>
    obtain ⟨g, rfl, -⟩ := hA 0 (by simp)
    refine (Any.slices_BinarySearch_int Tryd.layB g 0 (y :: M).length c (y :: M) x w (Nat.le_refl _) (by omega) (fun j hj => by
      obtain ⟨g', e, h⟩ := hA j hj
      cases e
      rw [Nat.zero_add]
      exact h) (by rw [List.take_length]; exact hs)).mono ?_
    rintro e w' ⟨rfl, q, rfl⟩
    rw [List.take_length]
    exact ⟨⟨_, rfl⟩, below_drewN (Below.refl _ _) _⟩

end Go.Proofs.YtkdafkdogmemcaaDoor

namespace Go.Proofs.YtkdafkdogmemcaaDoor
open Go.RowKit

/-- A row of N cells, its first ones written. -/
def fillA (xs : List Value) (z : Value) (N : Nat) : Array Value := (xs ++ List.replicate (N - xs.length) z).toArray
theorem fill_size {xs : List Value} {z : Value} {N : Nat} (h : xs.length ≤ N) : (fillA xs z N).size = N := by
  simp [fillA]; omega
theorem fill_set {xs : List Value} {z : Value} {N : Nat} (h : xs.length < N) (v : Value) : (fillA xs z N).setIfInBounds xs.length v = fillA (xs ++ [v]) z N := by
  unfold fillA
  obtain ⟨m, hm⟩ : ∃ m, N - xs.length = m + 1 := ⟨N - xs.length - 1, by omega⟩
  rw [hm, show N - (xs ++ [v]).length = m by simp; omega, List.replicate_succ]
  simp
theorem fill_z {xs : List Value} {z : Value} {N i : Nat} (h : xs.length ≤ i) (hi : i < N) : (fillA xs z N)[i]? = some z := by
  simp [fillA, List.getElem?_append_right h, List.getElem?_replicate]
  omega
theorem fill_all {xs : List Value} {z : Value} {N : Nat} (h : xs.length = N) : (fillA xs z N).toList = xs := by
  simp [fillA, h]
theorem made_one (N : Nat) (z : Value) : madeCells #[z] N = fillA [] z N := by
  apply Array.ext_getElem?
  intro i
  by_cases hi : i < N
  · rw [fill_z (Nat.zero_le _) hi]
    simp [madeCells, hi, Nat.mod_one]
  · rw [Array.getElem?_eq_none (by simp [madeCells]; omega), Array.getElem?_eq_none (by rw [fill_size (Nat.zero_le _)]; omega)]
theorem infoI20 : ∃ i, Tryd.prog.info? 3 = some i ∧ i.zero = some (.int .i64 0) ∧ i.size = 1 ∧ i.bytes = 8 :=
  ⟨(Tryd.prog.info? 3).get (by kernel_rfl), by kernel_rfl, by kernel_rfl, by kernel_rfl, by kernel_rfl⟩
theorem make_ints (n : Nat) (hn : n ≤ 1048576) (w : World) : (Instr.makeSlice 55 (.int .i64 n) (.int .i64 n)).run Tryd.prog w = .ok (.slice (some ⟨w.heap.size, 0, none⟩) n n) (w.alloc (.cells (fillA [] (.int .i64 0) n) 3)) := by
  obtain ⟨i, hi, hz, hs, hb⟩ := infoI20
  have h := run_makeSlice (P := Tryd.prog) w 55 3 i _ Tryd.underlying55 hi hz .i64 .i64 n n (by omega) (by omega) (by rw [hs]; omega) (by rw [hb]; omega) (by omega)
  rw [hs, show ((n : Int)).toNat = n by omega, Nat.mul_one] at h
  rw [h, ← made_one]
  rfl
theorem plL_len (l : List Spt) : (plL l).length = l.length := List.length_map _
theorem plT_len {l : List Spt} {k : Nat} (h : k ≤ l.length) : (iVals .i64 ((plL l).take k)).length = k := by
  unfold iVals
  rw [List.length_map, List.length_take, plL_len]
  omega
theorem plT_step {l : List Spt} {k : Nat} (h : k < l.length) : iVals .i64 ((plL l).take k) ++ [.int .i64 (spt l k).1] = iVals .i64 ((plL l).take (k + 1)) := by
  have hk : k < (plL l).length := by rw [plL_len]; exact h
  have e : (plL l)[k] = (spt l k).1 := by
    have h1 : (spt l k).1 = l[k].1 := by unfold spt; rw [List.getD_eq_getElem?_getD, List.getElem?_eq_getElem h]; rfl
    rw [h1]
    exact List.getElem_map _
  rw [List.take_add_one, List.getElem?_eq_getElem hk, e]
  show _ = iVals .i64 (_ ++ [_])
  rw [iVals_snoc]
def PlaP (l : List Spt) (w : World) (e : Ending) (w' : World) : Prop := ∃ O : Option Addr, e = .returned (.slice O l.length l.length) ∧ w'.ownsRow w.heap.size 3 1 (.slice O l.length l.length) l.length (iVals .i64 (plL l)) ∧ Below w.heap.size w w'
set_option maxRecDepth 100000 in
set_option maxHeartbeats 4000000 in
theorem places_any (A : Option Addr) (c : Nat) (l : List Spt) (w : World) (hA : SpAt w A l) (hl : l.length ≤ 1048576) :
    Calls Tryd.prog 20 #[.slice A l.length c] w (PlaP l w) := by
  have HA : Hid (SpAt w A l) := hA
  have hmk := make_ints l.length hl w
  have HB0 : Hid (Below w.heap.size w (w.alloc (.cells (fillA [] (.int .i64 0) l.length) 3))) := lb_alloc (Below.refl _ _) _
  have HF0 : Hid ((w.alloc (.cells (fillA [] (.int .i64 0) l.length) 3)).heap[w.heap.size]? = some (.cells (fillA (iVals .i64 ((plL l).take 0)) (.int .i64 0) l.length) 3 (0, 0))) := heap_alloc_new _ _
  clear hA
  go_enter Tryd.func20, Tryd.ntmps20
  go_wp2
  go_loopw [11] (fun vi wr => ∃ k : Nat, vi = .int .i64 (k : Int) ∧ k ≤ l.length ∧ Hid (wr.heap[w.heap.size]? = some (.cells (fillA (iVals .i64 ((plL l).take k)) (.int .i64 0) l.length) 3 (0, 0))) ∧ Hid (Below w.heap.size w wr)) (fun vi _ => l.length - (intOf vi).toNat)
  case atStart => exact ⟨0, rfl, Nat.zero_le _, HF0, HB0⟩
  case round =>
    clear hmk HF0 HB0
    obtain ⟨k, rfl, hk, HF, HB⟩ := hrel
    by_cases hlt : k < l.length
    · have hlt' : (k : Int) < (l.length : Int) := by omega
      obtain ⟨a, ea, p1, p2, p3⟩ := (HA.out.keep HB.out) k hlt
      subst ea
      have HST : Hid (iVals .i64 ((plL l).take k) ++ [.int .i64 (spt l k).1] = iVals .i64 ((plL l).take (k + 1))) := plT_step hlt
      have HLn : Hid ((iVals .i64 ((plL l).take k)).length = k) := plT_len hk
      generalize iVals .i64 ((plL l).take k) = R at *
      generalize spt l k = s at *
      obtain ⟨s0, s1, s2⟩ := s
      replace p1 : wr.cell? (a.add (k * 3)) = some (.int .i64 s0) := p1
      replace p2 : wr.cell? ⟨(a.add (k * 3)).block, (a.add (k * 3)).off + 1, none⟩ = some (.int .i8 s1) := p2
      replace p3 : wr.cell? ⟨(a.add (k * 3)).block, (a.add (k * 3)).off + 2, none⟩ = some (.int .i8 s2) := p3
      have hwl : w.heap.size < wr.heap.size := (Array.getElem?_eq_some_iff.1 HF.out).1
      have q0 : (wr.alloc (.cells #[.int .i64 s0, .int .i8 s1, .int .i8 s2] 53)).heap[w.heap.size]? = some (.cells (fillA R (.int .i64 0) l.length) 3 (0, 0)) := (Below.heap_alloc _ _ _ hwl).trans HF.out
      have q1 : (wr.alloc (.cells #[.int .i64 s0, .int .i8 s1, .int .i8 s2] 53)).cell? ⟨w.heap.size, k, none⟩ = some (.int .i64 0) := by
        rw [cell_of_row _ _ k _ _ (0, 0) q0]
        exact fill_z (by rw [HLn.out]; exact Nat.le_refl _) hlt
      have q2 : (wr.alloc (.cells #[.int .i64 s0, .int .i8 s1, .int .i8 s2] 53)).frozen? ⟨w.heap.size, k, none⟩ = false := frozen_of_row _ _ k _ _ q0
      have HF2 : Hid (((wr.setCell ⟨w.heap.size, k, none⟩ (.int .i64 s0)).alloc (.cells #[.int .i64 s0, .int .i8 s1, .int .i8 s2] 53)).heap[w.heap.size]? = some (.cells (fillA (iVals .i64 ((plL l).take (k + 1))) (.int .i64 0) l.length) 3 (0, 0))) := by
        unfold Hid
        rw [Below.heap_alloc _ _ _ (by simp; exact hwl), heap_setCell_same wr _ k _ _ _ HF.out, ← HST.out, ← fill_set (by rw [HLn.out]; exact hlt), HLn.out]
      have HB2 : Hid (Below w.heap.size w ((wr.setCell ⟨w.heap.size, k, none⟩ (.int .i64 s0)).alloc (.cells #[.int .i64 s0, .int .i8 s1, .int .i8 s2] 53))) := lb_alloc (HB.out.setCell (p := ⟨w.heap.size, k, none⟩) (Nat.le_refl _) _) _
      clear q0
      go_wp2
      go_roundw
      case rel => exact ⟨k + 1, by go_num, by omega, HF2, HB2⟩
      case measure => simp [intOf]; omega
    · obtain rfl : k = l.length := by omega
      have hlt' : ¬ (l.length : Int) < (l.length : Int) := by omega
      have HLn : (iVals .i64 ((plL l).take l.length)).length = l.length := plT_len (Nat.le_refl _)
      have HO : Hid (PlaP l w (.returned (.slice (some ⟨w.heap.size, 0, none⟩) l.length l.length)) wr) := by
        refine ⟨_, rfl, ⟨by rw [iV_len, plL_len, Nat.mul_one], .inr ⟨w.heap.size, l.length, _, rfl, Nat.le_refl _, HF.out, Nat.le_refl _, by unfold maxLen; omega, by rw [fill_size (by rw [HLn]; exact Nat.le_refl _), Nat.mul_one], ?_⟩⟩, HB.out⟩
        rw [Nat.mul_one, fill_all HLn, List.take_of_length_le (by rw [HLn]; exact Nat.le_refl _), List.take_of_length_le (by rw [plL_len]; exact Nat.le_refl _)]
      clear HF HB
      go_wp2
      go_ret
      exact HO.out

end Go.Proofs.YtkdafkdogmemcaaDoor

namespace Go.Proofs.YtkdafkdogmemcaaDoor
open Go.RowKit

theorem retB20 {b c : Bool} (h : b = c) : Ending.returned (.bool b) = .returned (.bool c) := by rw [h]
set_option maxRecDepth 100000 in
set_option maxHeartbeats 2000000 in
theorem mb1_any (s0 s1 s2 : Int) (w : World) :
    Calls Tryd.prog 41 #[.agg #[.int .i64 s0, .int .i8 s1, .int .i8 s2]] w fun e w' => e = .returned (.bool (!okS1 (s0, s1, s2))) ∧ Below w.heap.size w w' := by
  obtain ⟨X, HX⟩ : ∃ X, Hid (w.alloc (.cells #[.int .i64 s0, .int .i8 s1, .int .i8 s2] 53) = X) := ⟨_, rfl⟩
  have HB : Hid (Below w.heap.size w X) := by unfold Hid; rw [← HX.out]; exact lb_alloc (Below.refl _ _) _
  have x0 : X.cell? ⟨w.heap.size, 0, none⟩ = some (.int .i64 s0) := by rw [← HX.out]; simp [go_sem]
  by_cases h0 : s0 < 0
  · have HV : Hid ((!okS1 (s0, s1, s2)) = true) := by unfold Hid okS1; rw [decide_eq_false (by omega)]; rfl
    go_enter Tryd.func41, Tryd.ntmps41
    go_upto_region 1 with fail
    rw [HX.out]
    clear HX
    go_wp2
    go_ret
    exact ⟨retB20 HV.out.symm, by first | exact HB.out | exact below_drewN HB.out _ | exact HB.out.drew⟩
  · by_cases h1 : 16384 < s0
    · have HV : Hid ((!okS1 (s0, s1, s2)) = true) := by unfold Hid okS1; rw [decide_eq_false (show ¬ s0 ≤ 16384 by omega), Bool.and_false]; rfl
      go_enter Tryd.func41, Tryd.ntmps41
      go_upto_region 1 with fail
      rw [HX.out]
      clear HX
      go_wp2
      go_ret
      exact ⟨retB20 HV.out.symm, by first | exact HB.out | exact below_drewN HB.out _ | exact HB.out.drew⟩
    · have HV : Hid ((!okS1 (s0, s1, s2)) = false) := by unfold Hid okS1; rw [decide_eq_true (show 0 ≤ s0 by omega), decide_eq_true (show s0 ≤ 16384 by omega)]; rfl
      go_enter Tryd.func41, Tryd.ntmps41
      go_upto_region 1 with fail
      rw [HX.out]
      clear HX
      go_wp2
      go_ret
      exact ⟨retB20 HV.out.symm, by first | exact HB.out | exact below_drewN HB.out _ | exact HB.out.drew⟩
set_option maxRecDepth 100000 in
set_option maxHeartbeats 4000000 in
theorem mbi_any (A : Option Addr) (c : Nat) (l : List Spt) (w : World) (hA : SpAt w A l) (hl : l.length ≤ 1048576) :
    Calls Tryd.prog 48 #[.slice A l.length c, .func (.func 41) #[] #[]] w fun e w' => (∃ k : Int, e = .returned (.int .i64 k) ∧ (decide (0 ≤ k)) = !l.all okS1) ∧ Below w.heap.size w w' := by
  have HA : Hid (SpAt w A l) := hA
  clear hA
  go_enter Tryd.func48, Tryd.ntmps48
  go_wp2
  go_loopw [8] (fun v wr => ∃ k : Nat, v = .int .i64 (k : Int) ∧ k ≤ l.length ∧ Hid ((l.take k).all okS1 = true) ∧ Hid (Below w.heap.size w wr)) (fun v _ => l.length - (intOf v).toNat)
  case atStart => exact ⟨0, rfl, Nat.zero_le _, rfl, Below.refl _ _⟩
  case round =>
    obtain ⟨k, rfl, hk, HT, HB⟩ := hrel
    by_cases hlt : k < l.length
    · have hlt' : (k : Int) < (l.length : Int) := by omega
      obtain ⟨a, ea, c0, c1, c2⟩ := (HA.out.keep HB.out) k hlt
      subst ea
      replace c0 : wr.cell? (a.add (k * 3)) = some (.int .i64 (spt l k).1) := c0
      replace c1 : wr.cell? ⟨(a.add (k * 3)).block, (a.add (k * 3)).off + 1, none⟩ = some (.int .i8 (spt l k).2.1) := c1
      replace c2 : wr.cell? ⟨(a.add (k * 3)).block, (a.add (k * 3)).off + 2, none⟩ = some (.int .i8 (spt l k).2.2) := c2
      have HM : Hid (spt l k ∈ l) := spt_mem hlt
      have HT2 : Hid (okS1 (spt l k) = true → (l.take (k + 1)).all okS1 = true) := fun h => all_take hlt HT.out h
      clear HT
      generalize spt l k = s at *
      obtain ⟨s0, s1, s2⟩ := s
      have C := fun Z => mb1_any s0 s1 s2 Z
      cases hs : okS1 (s0, s1, s2) with
      | true =>
        rw [hs] at C
        have HT3 := HT2.out hs
        have HTT : Hid ((l.take (k + 1)).all okS1 = true) := HT3
        clear hs HT3 HT2
        go_wp2_with (go_at_call 41; refine (C _).mono ?_; rintro e w5 ⟨rfl, hb5⟩)
        have HW5 : Hid (Below w.heap.size w w5) := lb_trans HB.out hb5
        clear hb5
        go_wp2
        go_roundw
        case rel => exact ⟨k + 1, by go_num, by omega, HTT, HW5⟩
        case measure => simp [intOf]; omega
      | false =>
        rw [hs] at C
        have HV : Hid ((decide (0 ≤ (k : Int))) = !l.all okS1) := by
          unfold Hid
          rw [decide_eq_true (by omega)]
          have : l.all okS1 = false := by
            rw [List.all_eq_false]
            exact ⟨_, HM.out, by rw [hs]; exact Bool.false_ne_true⟩
          rw [this]; rfl
        clear hs HT2
        go_wp2_with (go_at_call 41; refine (C _).mono ?_; rintro e w5 ⟨rfl, hb5⟩)
        have HW5 : Hid (Below w.heap.size w w5) := lb_trans HB.out hb5
        clear hb5
        go_wp2
        go_ret
        exact ⟨⟨_, rfl, HV.out⟩, HW5.out⟩
    · obtain rfl : k = l.length := by omega
      have hlt' : ¬ (l.length : Int) < (l.length : Int) := by omega
      have HV : Hid ((decide (0 ≤ (-1 : Int))) = !l.all okS1) := by
        have := HT.out
        rw [List.take_length] at this
        unfold Hid
        rw [this]; rfl
      clear HT
      go_wp2
      go_ret
      exact ⟨⟨_, rfl, HV.out⟩, HB.out⟩
set_option maxRecDepth 100000 in
theorem mbc_any (A : Option Addr) (c : Nat) (l : List Spt) (w : World) (hA : SpAt w A l) (hl : l.length ≤ 1048576) :
    Calls Tryd.prog 40 #[.slice A l.length c, .func (.func 41) #[] #[]] w fun e w' => e = .returned (.bool (!l.all okS1)) ∧ Below w.heap.size w w' := by
  have C := mbi_any A c l w hA hl
  clear hA
  go_enter Tryd.func40, Tryd.ntmps40
  go_wp2_with fail
  refine C.mono ?_
  rintro e w1 ⟨⟨k, rfl, hv⟩, hb⟩
  have HV : Hid ((decide (0 ≤ k)) = !l.all okS1) := hv
  have HB : Hid (Below w.heap.size w w1) := hb
  clear hv hb
  go_wp2
  go_ret
  exact ⟨retB20 HV.out, HB.out⟩
set_option maxRecDepth 100000 in
set_option maxHeartbeats 2000000 in
theorem maybe_any (n : Int) (A : Option Addr) (c : Nat) (l : List Spt) (w : World) (hA : SpAt w A l) (hl : l.length ≤ 1048576) :
    Calls Tryd.prog 15 #[.int .i64 n, .slice A l.length c] w fun e w' => e = .returned (.bool (wiB n l)) ∧ Below w.heap.size w w' := by
  have C := mbc_any A c l w hA hl
  clear hA
  by_cases h1 : n < 1
  · have HV : Hid (wiB n l = false) := by unfold Hid wiB; rw [decide_eq_false (show ¬ 1 ≤ n by omega), Bool.false_and, Bool.and_false]
    go_enter Tryd.func15, Tryd.ntmps15
    go_wp2
    go_ret
    exact ⟨retB20 HV.out.symm, by first | exact Below.refl _ _ | exact below_drewN (Below.refl _ _) _⟩
  · by_cases h2 : 16384 < n
    · have HV : Hid (wiB n l = false) := by unfold Hid wiB; rw [decide_eq_false (show ¬ n ≤ 16384 by omega), Bool.and_false, Bool.and_false]
      go_enter Tryd.func15, Tryd.ntmps15
      go_wp2
      go_ret
      exact ⟨retB20 HV.out.symm, by first | exact Below.refl _ _ | exact below_drewN (Below.refl _ _) _⟩
    · have HV : Hid (wiB n l = l.all okS1) := by unfold Hid wiB; rw [decide_eq_true (show 1 ≤ n by omega), decide_eq_true (show n ≤ 16384 by omega), Bool.and_self, Bool.and_true]
      go_enter Tryd.func15, Tryd.ntmps15
      go_wp2_with fail
      refine C.mono ?_
      rintro e w1 ⟨rfl, hb⟩
      go_wp2
      go_ret
      exact ⟨retB20 (by rw [HV.out]), hb⟩

end Go.Proofs.YtkdafkdogmemcaaDoor
