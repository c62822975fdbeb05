/-
  A range over what is told. A row that is written from its end on. markLabels, by what it marks; each word is of 32 bits. markBegins, by what it marks; each word is of 32 bits.
-/
import Derived.Test.YtokhclindfipbaaGreatDoorProg
import Derived.WalkKit
import Derived.WalkSpells
import Derived.WalkLawsBesides
import Derived.RowKit3
import Derived.Below
import Derived.Deep.QuietTactic
import Derived.BigQuiet
import Derived.WalkSmall
import Derived.Laws.Rows
import Derived.RangeFuncNested
import Derived.RangeFuncBound
import Derived.RangeFuncCalls
import Derived.RangeFuncLeaves
import Derived.Shelf.Abstract
import Derived.Shelf.RegionOpen
import Derived.OwnWalkIn
import Derived.TacticsInMore
import Derived.LoopNIn
import Derived.LoopIn
import Derived.Maps.AppendAt
import Derived.RangeFuncBox
import Derived.Test.YtokhclindfipbaaGreatDoorPa37
import Derived.Test.YtokhclindfipbaaGreatDoorPa04
import Derived.Test.YtokhclindfipbaaGreatDoorPa18
import Derived.Test.YtokhclindfipbaaGreatDoorPa19
import Derived.Test.YtokhclindfipbaaGreatDoorPa26
namespace Go.Proofs.YtokhclindfipbaaGreatDoor
open Go.RowKit

attribute [local go_sem] Oper.semAt_some

/-- What a range's own doing may turn: whatever is no cells, from n on. -/
structure Turn (n : Nat) (W W' : World) : Prop where
  os : W'.os = W.os
  tape : W'.tape = W.tape
  output : W'.output = W.output
  size : W.heap.size ≤ W'.heap.size
  low : ∀ b, b < n → W'.heap[b]? = W.heap[b]?
  cells : ∀ (b : Nat) (cs : Array Value) (t : TypeId) (m : Nat × Nat), W.heap[b]? = some (.cells cs t m) → W'.heap[b]? = W.heap[b]?
theorem Turn.of {n : Nat} {W W' : World} (h : Below W.heap.size W W') (hn : n ≤ W.heap.size) : Turn n W W' :=
  ⟨h.os, h.tape, h.output, h.size, fun b hb => h.block b (by omega), fun b _ _ _ e => h.block b (Array.getElem?_eq_some_iff.1 e).1⟩
theorem Turn.trans {n : Nat} {A B C : World} (h : Turn n A B) (k : Turn n B C) : Turn n A C :=
  ⟨k.os.trans h.os, k.tape.trans h.tape, k.output.trans h.output, Nat.le_trans h.size k.size, fun b hb => (k.low b hb).trans (h.low b hb), fun b cs t m e => (k.cells b cs t m ((h.cells b cs t m e).trans e)).trans (h.cells b cs t m e)⟩
theorem Turn.put {n l : Nat} {W : World} {o o' : Obj} (h : W.heap[l]? = some o) (ho : o.isCells = false) (hn : n ≤ l) : Turn n W (W.putObj l o') :=
  ⟨rfl, rfl, rfl, by simp, fun b hb => World.putObj_heap_other (by omega), fun b cs t m e => World.putObj_heap_other (fun e2 => by rw [e2, h] at e; cases e; cases ho)⟩
theorem own_blockR {W : World} {base n : Nat} {e : TypeId} {size : Nat} {v : Value} {xs : List Value} (h : W.ownsRow base e size v n xs) {g : Nat} (hg : v.ownBlock = some g) : ∃ cs, W.heap[g]? = some (.cells cs e (0, 0)) := by
  rcases h.2 with ⟨rfl, _⟩ | ⟨g', cap, cur, rfl, _, h3, _⟩
  · cases hg
  · cases hg
    exact ⟨cur, h3⟩
theorem Turn.row {n : Nat} {W W' : World} {base : Nat} {e : TypeId} {size : Nat} {v : Value} {k : Nat} {xs : List Value} (h : Turn n W W') (hr : W.ownsRow base e size v k xs) : W'.ownsRow base e size v k xs := by
  obtain ⟨h1, h2⟩ := hr
  refine ⟨h1, ?_⟩
  rcases h2 with h2 | ⟨g', cap, cur, rfl, h2, h3, h4⟩
  · exact .inl h2
  · exact .inr ⟨g', cap, cur, rfl, h2, (h.cells _ _ _ _ h3).trans h3, h4⟩
theorem Turn.box {n B : Nat} {t : TypeId} {cs : Array Value} {W W' : World} {m : Nat × Nat} (h : Turn n W W') (hb : W.heap[B]? = some (.cells cs t m)) : W'.heap[B]? = some (.cells cs t m) := (h.cells B _ _ _ hb).trans hb
theorem Turn.below {n n0 : Nat} {w0 W W' : World} (h : Turn n W W') (hb : Below n0 w0 W) (hn : n0 ≤ n) : Below n0 w0 W' := hb.trans ⟨h.os, h.tape, h.output, h.size, fun k hk => h.low k (by omega)⟩
/-- What a round must keep: what lay below n0; from n1 on whatever is no cells. -/
structure Kept (n0 n1 : Nat) (W W' : World) : Prop where
  low : Below n0 W W'
  other : ∀ (b : Nat) (o : Obj), W.heap[b]? = some o → n1 ≤ b → o.isCells = false → W'.heap[b]? = some o
theorem Kept.trans {n0 n1 : Nat} {A B C : World} (h : Kept n0 n1 A B) (k : Kept n0 n1 B C) : Kept n0 n1 A C :=
  ⟨h.low.trans k.low, fun b o e hb ho => k.other b o (h.other b o e hb ho) hb ho⟩
theorem Kept.of {n0 n1 : Nat} {W W' : World} (h : Below W.heap.size W W') (hn : n0 ≤ W.heap.size) : Kept n0 n1 W W' :=
  ⟨h.mono hn, fun b _o e _ _ => (h.block b (Array.getElem?_eq_some_iff.1 e).1).trans e⟩
/-- A change of one block of cells. -/
theorem Kept.grown {n0 n1 g : Nat} {W W' : World} {cs : Array Value} {t : TypeId} {m : Nat × Nat} (h : W.grownBy W' (some g)) (hg : W.heap[g]? = some (.cells cs t m)) (hn : n0 ≤ g) : Kept n0 n1 W W' := by
  have hlt := (Array.getElem?_eq_some_iff.1 hg).1
  refine ⟨⟨h.os, h.tape, h.output, h.size, fun k hk => h.block k (by omega) (fun e => by cases e; omega)⟩, fun b o e _ ho => ?_⟩
  exact (h.block b (Array.getElem?_eq_some_iff.1 e).1 (fun e2 => by cases e2; rw [hg] at e; cases e; cases ho)).trans e
theorem Kept.grown0 {n0 n1 : Nat} {W W' : World} (h : W.grownBy W' none) (hn : n0 ≤ W.heap.size) : Kept n0 n1 W W' :=
  Kept.of ⟨h.os, h.tape, h.output, h.size, fun k hk => h.block k hk (by simp)⟩ hn
theorem below_put {n0 l : Nat} {W : World} {o : Obj} (hn : n0 ≤ l) : Below n0 W (W.putObj l o) := ⟨rfl, rfl, rfl, by simp, fun b hb => World.putObj_heap_other (by omega)⟩
/-- How a round's body may be left. -/
def RoundQ (n0 n1 x : Nat) (I Ix : List (Nat × Nat) → World → Prop) (T : List (Nat × Nat)) (W : World) : Exit → Act → World → Prop
  | .normal, _, W' => Kept n0 n1 W W' ∧ I T W'
  | .exit y, _, W' => Kept n0 n1 W W' ∧ y = x ∧ Ix T W'
  | _, _, _ => False
set_option maxHeartbeats 2000000 in
/-- A range over the sequences; what is told lies behind all that was there ahead of it. -/
theorem range_eachF {g : Operand} {ps : Array Tmp} {assign body : Code} {Q : Exit → Act → World → Prop} {a : Act} {w : World} (n : Nat) (hn : 3 ≤ n) (x n0 B : Nat) (A1 A2 A3 A4 : Option Addr) (c1 c2 c3 c4 : Nat) (nm : List Int) (en : Nat → Nat) (he : EnP nm en) (hl : nm.length ≤ 2048)
    (hg : a.eval g = .func (.func 37) #[.pointer (some ⟨B, 0, none⟩)] #[]) (hps : ps.size = 1)
    (hn0 : n0 ≤ w.heap.size) (I Ix : List (Nat × Nat) → World → Prop) (hO : ∀ T W, I T W → RwS W B A1 A2 A3 A4 c1 c2 c3 c4 nm en)
    (hI : ∀ T W W', I T W → Turn w.heap.size W W' → I T W') (hIx : ∀ T W W', Ix T W → Turn w.heap.size W W' → Ix T W') (h0 : I [] w)
    (Ax : Nat → Nat → Option Addr → Nat → Nat → Act → World → World → Prop)
    (hassign : ∀ (l0 m : Nat) (O : Option Addr) (k c : Nat) (W : World) (K : Act → World → Prop), (∀ a1 W1, Ax l0 m O k c a1 W W1 → K a1 W1) → assign.wpIn (Fence.wide.inRound l0) (n - 1 - 1) Tryz.prog (Exit.then K (fun _ _ _ => False)) { tmps := (ps.zip #[repV m O k c]).foldl (fun t (p, v) => t.setIfInBounds p v) a.tmps, defers := [] } W)
    (hAx : ∀ l0 m O k c a1 W W1, Ax l0 m O k c a1 W W1 → Below W.heap.size W W1)
    (hbody : ∀ (l0 : Nat) (T : List (Nat × Nat)) (r : Nat × Nat) (O : Option Addr) (c : Nat) (W W1 W3 Wq : World) (a1 : Act), T ++ [r] <+: eachL nm en → w.heap.size ≤ W.heap.size → Ax l0 r.1 O (plcS nm en r.2 r.1).length c a1 W W1 → Turn w.heap.size W1 W3 → I T Wq → w.heap.size ≤ Wq.heap.size → Turn w.heap.size Wq W3 → W3.ownsRow Wq.heap.size 3 1 (.slice O (plcS nm en r.2 r.1).length c) (plcS nm en r.2 r.1).length (iVals .i64 (nV64 (plcS nm en r.2 r.1))) → body.wpIn (Fence.wide.inRound l0) (n - 1 - 1) Tryz.prog (RoundQ n0 w.heap.size x I Ix (T ++ [r]) W3) a1 W3)
    (hdone : ∀ (D : Nat) (W : World), w.heap.size ≤ D → I (eachL nm en) W → W.heap[D]? = some (.deferred (some [])) → Q .normal { a with defers := { target := .collected D, args := #[] } :: a.defers } W)
    (hstop : ∀ (D : Nat) (T : List (Nat × Nat)) (W : World), w.heap.size ≤ D → T <+: eachL nm en → Ix T W → W.heap[D]? = some (.deferred (some [])) → Q (.exit x) { a with defers := { target := .collected D, args := #[] } :: a.defers } W) :
    (Code.rangeFunc g ps assign body).wpIn Fence.wide n Tryz.prog Q a w := by
  refine wpIn_rangeFunc fun fn hfn => ?_
  obtain ⟨rec, hrec⟩ : ∃ rec : LoopState → Option Code → Loop, rec = fun st pe => { state := st, pending := pe, fn, tmps := a.tmps, params := ps, assign, body, defers := w.heap.size } := ⟨_, rfl⟩
  obtain ⟨W1, hW1⟩ : ∃ W1, (w.alloc (.deferred (some []))).alloc (.loop (rec .ready none)) = W1 := ⟨_, rfl⟩
  have b1 : Below w.heap.size w W1 := by rw [← hW1]; exact lb_alloc (lb_alloc (Below.refl _ _) _) _
  have L1 : W1.heap[w.heap.size + 1]? = some (.loop (rec .ready none)) := by
    rw [← hW1]; have := World.alloc_heap_new (w.alloc (.deferred (some []))) (.loop (rec .ready none)); rwa [World.size_alloc] at this
  have D1 : W1.heap[w.heap.size]? = some (.deferred (some [])) := by
    rw [← hW1]; exact (Below.heap_alloc _ _ _ (by simp)).trans (World.alloc_heap_new w _)
  have size : ∀ {W : World} {o : Obj}, W.heap[w.heap.size + 1]? = some o → w.heap.size ≤ W.heap.size := fun h => by
    have := (Array.getElem?_eq_some_iff.1 h).1
    omega
  refine ⟨w.heap.size + 1, [{ target := .collected w.heap.size, args := #[] }], W1, { target := .fn (.func 37) #[], args := #[.pointer (some ⟨B, 0, none⟩), .func (.yield (w.heap.size + 1)) #[] #[]] }, W1, 37, #[.pointer (some ⟨B, 0, none⟩), .func (.yield (w.heap.size + 1)) #[] #[]], W1, ?_, ?_, fun _ _ => trivial, ?_, (fun h => by cases h), ?_⟩
  · rw [← hW1, hrec]; exact run_enterLoop_outer _ _ _ _ _
  · simp only [resolve, hg]
    simp [go_sem]
  · have eg := enters_of Tryz.func37 (by kernel_rfl) rfl
    simp [invoke, go_sem, eg _ _]
  · refine (each1_any (n - 1) (by omega) (w.heap.size + 1) B A1 A2 A3 A4 c1 c2 c3 c4 nm en he hl n0
      (fun T W => I T W ∧ W.heap[w.heap.size + 1]? = some (.loop (rec .ready none)) ∧ W.heap[w.heap.size]? = some (.deferred (some [])))
      (fun T W => Ix T W ∧ W.heap[w.heap.size + 1]? = some (.loop (rec .done (some (.exit x)))) ∧ W.heap[w.heap.size]? = some (.deferred (some [])))
      (fun T W W' h hb => ⟨hI T W W' h.1 (Turn.of hb (size h.2.1)), (hb.block _ (Array.getElem?_eq_some_iff.1 h.2.1).1).trans h.2.1, (hb.block _ (Array.getElem?_eq_some_iff.1 h.2.2).1).trans h.2.2⟩)
      (fun T W h => ⟨hO T W h.1, Nat.le_trans hn0 (size h.2.1)⟩) ?round W1 ⟨hI [] w W1 h0 (Turn.of b1 (Nat.le_refl _)), L1, D1⟩).mono ?_
    case round =>
      rintro T r O c Wq W hp ⟨hiq, hlq, hdq⟩ hbq hrow
      have hzq := size hlq
      have hl := (hbq.block _ (Array.getElem?_eq_some_iff.1 hlq).1).trans hlq
      have hd := (hbq.block _ (Array.getElem?_eq_some_iff.1 hdq).1).trans hdq
      have hlt : w.heap.size + 1 < W.heap.size := (Array.getElem?_eq_some_iff.1 hl).1
      have hy := run_yield (P := Tryz.prog) (args := #[repV r.1 O (plcS nm en r.2 r.1).length c]) hl (by rw [hrec]; simp [hps])
      rw [hrec] at hy
      refine ⟨fn, _, assign, body, hy, roundIn_of_wpIn hfn (hassign _ _ _ _ _ W _ fun a1 W2 hax => ?_)⟩
      have hb2 := hAx _ _ _ _ _ _ _ _ hax
      have hsz := hb2.size
      have hl2 : W2.heap[w.heap.size + 1]? = some (.loop (rec .ready none)) := (hb2.block _ hlt).trans hl
      have hd2 : W2.heap[w.heap.size]? = some (.deferred (some [])) := (hb2.block _ (by omega)).trans hd
      have hlt2 : w.heap.size + 1 < W2.heap.size := by omega
      refine ⟨_, run_beginRound hl2 (by rw [hrec]), ?_⟩
      have tn : Turn w.heap.size W2 (W2.putObj (w.heap.size + 1) (.loop { rec .ready none with state := .busy })) := Turn.put hl2 rfl (by omega)
      have l2 : (W2.putObj (w.heap.size + 1) (.loop { rec .ready none with state := .busy })).heap[w.heap.size + 1]? = some (.loop { rec .ready none with state := .busy }) := World.putObj_heap_same hlt2
      have d2 : (W2.putObj (w.heap.size + 1) (.loop { rec .ready none with state := .busy })).heap[w.heap.size]? = some (.deferred (some [])) := (World.putObj_heap_other (by omega)).trans hd2
      refine wpIn_mono (hbody _ T r O c W W2 _ _ a1 hp (by omega) hax tn hiq hzq (((Turn.of hbq hzq).trans (Turn.of hb2 (by omega))).trans tn) (tn.row (row_keep hrow hb2))) ?_
      intro e a3 W3 hq
      cases e with
      | normal =>
        obtain ⟨k3, i3⟩ := hq
        have l3 := k3.other _ _ l2 (by omega) rfl
        have d3 := k3.other _ _ d2 (Nat.le_refl _) rfl
        have hr := run_endRound (P := Tryz.prog) none l3
        refine ⟨_, _, hr, .inl ⟨rfl, hI _ _ _ i3 (Turn.put l3 rfl (by omega)), ?_, (World.putObj_heap_other (by omega)).trans d3⟩⟩
        rw [World.putObj_heap_same (Array.getElem?_eq_some_iff.1 l3).1, hrec]
        rfl
      | exit y =>
        obtain ⟨k3, rfl, i3⟩ := hq
        have l3 := k3.other _ _ l2 (by omega) rfl
        have d3 := k3.other _ _ d2 (Nat.le_refl _) rfl
        have hr := run_endRound (P := Tryz.prog) (some (.exit y)) l3
        refine ⟨_, _, hr, .inr ⟨rfl, hIx _ _ _ i3 (Turn.put l3 rfl (by omega)), ?_, (World.putObj_heap_other (by omega)).trans d3⟩⟩
        rw [World.putObj_heap_same (Array.getElem?_eq_some_iff.1 l3).1, hrec]
        rfl
      | ret => exact hq.elim
      | goto t => exact hq.elim
      | panic ch => exact hq.elim
      | outgrown => exact hq.elim
    rintro e W2 ⟨⟨v, rfl⟩, ⟨hi, hl, hd⟩ | ⟨T, hT, hi, hl, hd⟩⟩
    · exact ⟨none, _, by have := run_endLoop (P := Tryz.prog) hl (by rw [hrec]; simp); rw [hrec] at this; exact this, hdone _ _ (Nat.le_refl _) (hI _ _ _ hi (Turn.put hl rfl (by omega))) ((World.putObj_heap_other (by omega)).trans hd)⟩
    · exact ⟨some (.exit x), _, by have := run_endLoop (P := Tryz.prog) hl (by rw [hrec]; simp); rw [hrec] at this; exact this, wpIn_exit (hstop _ T _ (Nat.le_refl _) hT (hIx _ _ _ hi (Turn.put hl rfl (by omega))) ((World.putObj_heap_other (by omega)).trans hd))⟩
set_option maxHeartbeats 2000000 in
/-- A range over the sequences. -/
theorem range_each {g : Operand} {ps : Array Tmp} {assign body : Code} {Q : Exit → Act → World → Prop} {a : Act} {w : World} (n : Nat) (hn : 3 ≤ n) (x n0 B : Nat) (A1 A2 A3 A4 : Option Addr) (c1 c2 c3 c4 : Nat) (nm : List Int) (en : Nat → Nat) (he : EnP nm en) (hl : nm.length ≤ 2048)
    (hg : a.eval g = .func (.func 37) #[.pointer (some ⟨B, 0, none⟩)] #[]) (hps : ps.size = 1)
    (hn0 : n0 ≤ w.heap.size) (I Ix : List (Nat × Nat) → World → Prop) (hO : ∀ T W, I T W → RwS W B A1 A2 A3 A4 c1 c2 c3 c4 nm en)
    (hI : ∀ T W W', I T W → Turn w.heap.size W W' → I T W') (hIx : ∀ T W W', Ix T W → Turn w.heap.size W W' → Ix T W') (h0 : I [] w)
    (Ax : Nat → Nat → Option Addr → Nat → Nat → Act → World → World → Prop)
    (hassign : ∀ (l0 m : Nat) (O : Option Addr) (k c : Nat) (W : World) (K : Act → World → Prop), (∀ a1 W1, Ax l0 m O k c a1 W W1 → K a1 W1) → assign.wpIn (Fence.wide.inRound l0) (n - 1 - 1) Tryz.prog (Exit.then K (fun _ _ _ => False)) { tmps := (ps.zip #[repV m O k c]).foldl (fun t (p, v) => t.setIfInBounds p v) a.tmps, defers := [] } W)
    (hAx : ∀ l0 m O k c a1 W W1, Ax l0 m O k c a1 W W1 → Below W.heap.size W W1)
    (hbody : ∀ (l0 : Nat) (T : List (Nat × Nat)) (r : Nat × Nat) (O : Option Addr) (c : Nat) (W W1 W3 : World) (a1 : Act), T ++ [r] <+: eachL nm en → w.heap.size ≤ W.heap.size → Ax l0 r.1 O (plcS nm en r.2 r.1).length c a1 W W1 → Turn w.heap.size W1 W3 → I T W3 → W3.ownsRow n0 3 1 (.slice O (plcS nm en r.2 r.1).length c) (plcS nm en r.2 r.1).length (iVals .i64 (nV64 (plcS nm en r.2 r.1))) → body.wpIn (Fence.wide.inRound l0) (n - 1 - 1) Tryz.prog (RoundQ n0 w.heap.size x I Ix (T ++ [r]) W3) a1 W3)
    (hdone : ∀ (D : Nat) (W : World), w.heap.size ≤ D → I (eachL nm en) W → W.heap[D]? = some (.deferred (some [])) → Q .normal { a with defers := { target := .collected D, args := #[] } :: a.defers } W)
    (hstop : ∀ (D : Nat) (T : List (Nat × Nat)) (W : World), w.heap.size ≤ D → T <+: eachL nm en → Ix T W → W.heap[D]? = some (.deferred (some [])) → Q (.exit x) { a with defers := { target := .collected D, args := #[] } :: a.defers } W) :
    (Code.rangeFunc g ps assign body).wpIn Fence.wide n Tryz.prog Q a w :=
  range_eachF n hn x n0 B A1 A2 A3 A4 c1 c2 c3 c4 nm en he hl hg hps hn0 I Ix hO hI hIx h0 Ax hassign hAx (fun l0 T r O c W W1 W3 _Wq a1 hp hs hax tn hiq hzq tq hrow => hbody l0 T r O c W W1 W3 a1 hp hs hax tn (hI _ _ _ hiq tq) (ownsRow_mono hrow (Nat.le_trans hn0 hzq))) hdone hstop


end Go.Proofs.YtokhclindfipbaaGreatDoor

namespace Go.Proofs.YtokhclindfipbaaGreatDoor
open Go.RowKit

theorem wdn_set2 (f z : Nat → Value) (N k : Nat) (h : k + 1 < N) : (((wcur z f N (k + 2)).setIfInBounds k (f k)).setIfInBounds (k + 1) (f (k + 1))) = wcur z f N k := by
  apply Array.ext_getElem?
  intro i
  by_cases hi : i < N
  · rw [wcur_get _ _ _ _ _ hi, Array.getElem?_setIfInBounds, Array.size_setIfInBounds, wcur_size, Array.getElem?_setIfInBounds, wcur_size]
    by_cases h1 : k + 1 = i
    · subst h1; rw [if_pos rfl, if_pos h, if_neg (by omega)]
    · rw [if_neg h1]
      by_cases h2 : k = i
      · subst h2; rw [if_pos rfl, if_pos hi, if_neg (by omega)]
      · rw [if_neg h2, wcur_get _ _ _ _ _ hi]
        by_cases h3 : i < k
        · simp [h3, show i < k + 2 by omega]
        · simp [h3, show ¬ i < k + 2 by omega]
  · rw [Array.getElem?_eq_none (by simp [wcur_size]; omega), Array.getElem?_eq_none (by simp [wcur_size]; omega)]
/-- Where the block ahead of the beginning j ends. -/
def endB (ps : List Int) (n : Int) (j : Nat) : Int := if j < ps.length then nth ps j else n
def bCell (ps : List Int) (n : Int) (i : Nat) : Value := if i % 2 = 0 then .int .i64 (nth ps (i / 2)) else .int .i64 (endB ps n (i / 2 + 1))
def zCell (_ : Nat) : Value := .int .i64 0
theorem bCell0 (ps : List Int) (n : Int) (k : Nat) : bCell ps n (k * 2) = .int .i64 (nth ps k) := by
  have e : (k * 2) / 2 = k := by omega
  have m : (k * 2) % 2 = 0 := by omega
  unfold bCell
  rw [if_pos m, e]
theorem bCell1 (ps : List Int) (n : Int) (k : Nat) : bCell ps n (k * 2 + 1) = .int .i64 (endB ps n (k + 1)) := by
  have e : (k * 2 + 1) / 2 = k := by omega
  have m : ¬ (k * 2 + 1) % 2 = 0 := by omega
  unfold bCell
  rw [if_neg m, e]
theorem blk_step (ps : List Int) (n : Int) (k : Nat) (h : k < ps.length) : (((wcur zCell (bCell ps n) (ps.length * 2) ((k + 1) * 2)).setIfInBounds (k * 2) (.int .i64 (nth ps k))).setIfInBounds (k * 2 + 1) (.int .i64 (endB ps n (k + 1)))) = wcur zCell (bCell ps n) (ps.length * 2) (k * 2) := by
  rw [← bCell0 ps n k, ← bCell1 ps n k, show (k + 1) * 2 = k * 2 + 2 by omega]
  exact wdn_set2 _ _ _ _ (by omega)
theorem blk_done (ps : List Int) (n : Int) : (wcur zCell (bCell ps n) (ps.length * 2) 0).toList = dNews (zipN ps n) := by
  apply List.ext_getElem?
  intro i
  rw [Array.getElem?_toList]
  by_cases hi : i < ps.length * 2
  · rw [wcur_get _ _ _ _ _ hi, if_neg (by omega)]
    obtain ⟨k, hk⟩ : ∃ k, i = k * 2 ∨ i = k * 2 + 1 := ⟨i / 2, by omega⟩
    have hkl : k < ps.length := by omega
    obtain ⟨g0, g1⟩ := dNews_get (l := zipN ps n) (i := k) (by rw [zipN_len]; exact hkl)
    obtain ⟨z0, z1⟩ := zipN_at ps n k hkl
    rcases hk with rfl | rfl
    · rw [g0, bCell0, z0]
    · rw [g1, bCell1, z1]; rfl
  · rw [Array.getElem?_eq_none (by simp [wcur_size]; omega), List.getElem?_eq_none (by rw [dNews_len, zipN_len]; omega)]
theorem made_blk (ps : List Int) (n : Int) (N : Nat) : madeCells #[.int .i64 0, .int .i64 0] N = wcur zCell (bCell ps n) N N := by
  apply Array.ext_getElem?
  intro i
  by_cases hi : i < N
  · rw [wcur_get _ _ _ _ _ hi, if_pos hi]
    have h : i % 2 = 0 ∨ i % 2 = 1 := by omega
    rcases h with h | h <;> simp [madeCells, hi, h, zCell]
  · rw [Array.getElem?_eq_none (by simp [madeCells]; omega), Array.getElem?_eq_none (by simp [wcur_size]; omega)]
theorem make_blk (ps : List Int) (n : Int) (hn : ps.length ≤ 1048576) (w : World) : (Instr.makeSlice 103 (.int .i64 (ps.length : Int)) (.int .i64 (ps.length : Int))).run Tryz.prog w = .ok (.slice (some ⟨w.heap.size, 0, none⟩) ps.length ps.length) (w.alloc (.cells (wcur zCell (bCell ps n) (ps.length * 2) (ps.length * 2)) 117)) := by
  obtain ⟨i, hi, hz, hs, hb⟩ := infoB
  have h := run_makeSlice (P := Tryz.prog) w 103 117 i _ Tryz.underlying103 hi hz .i64 .i64 (ps.length : Int) (ps.length : Int) (by omega) (by omega) (by rw [hs]; omega) (by rw [hb]; omega) (by omega)
  rw [hs, show ((ps.length : Int)).toNat = ps.length by omega] at h
  rw [h, ← made_blk ps n (ps.length * 2)]
  rfl
theorem own_blk (ps : List Int) (n : Int) (w : World) (hn : ps.length ≤ 1048576) : (w.alloc (.cells (wcur zCell (bCell ps n) (ps.length * 2) 0) 117)).ownsRow w.heap.size 117 2 (.slice (some ⟨w.heap.size, 0, none⟩) (zipN ps n).length ps.length) (zipN ps n).length (dNews (zipN ps n)) := by
  refine ⟨by rw [dNews_len], Or.inr ⟨w.heap.size, ps.length, wcur zCell (bCell ps n) (ps.length * 2) 0, rfl, Nat.le_refl _, heap_alloc_new _ _, by rw [zipN_len]; exact Nat.le_refl _, by unfold maxLen; omega, by rw [wcur_size], ?_⟩⟩
  rw [zipN_len, blk_done, List.take_of_length_le (by rw [dNews_len, zipN_len]; exact Nat.le_refl _)]
/-- An answer of Blocks. -/
def BlkP (E : Int) (l : List Rel) (w : World) (e : Ending) (w' : World) : Prop :=
  ∃ (A : Option Addr) (c : Nat), e = .returned (.tuple #[.slice A l.length c, .int .i64 E]) ∧ w'.ownsRow w.heap.size 117 2 (.slice A l.length c) l.length (dNews l) ∧ Below w.heap.size w w'
def outB (text : List Int) (ml : Nat) (ent : Int) : List Rel := if (checkI text ml ent).1 = 0 then blkL text ent else []



end Go.Proofs.YtokhclindfipbaaGreatDoor

namespace Go.Proofs.YtokhclindfipbaaGreatDoor
open Go.RowKit

set_option maxRecDepth 100000 in
set_option maxHeartbeats 2000000 in
theorem marklabels_any (A1 A2 : Option Addr) (c1 ml c2 : Nat) (ent : Int) (text : List Int) (b n : Nat) (f : Int → Bool) (w : World) (hT : IntsAt w A1 .u32 text) (hR : ∀ i, i < text.length → 0 ≤ nth text i ∧ nth text i < 4294967296) (hl : text.length ≤ 1048576) (he0 : 0 ≤ ent) (he1 : ent ≤ 1048576) (hk : Mks w b n f) (hn : n ≤ 1000000000) :
    Calls Tryz.prog 102 #[.agg #[.slice A1 text.length c1, .int .i64 ent, .slice A2 ml c2], .map (some b)] w (MkP b (n + 1 + text.length) (addK (setF f ent) (gLab text) text.length) w) := by
  obtain ⟨W, HW⟩ : ∃ W, Hid (w.alloc (.cells #[.slice A1 text.length c1, .int .i64 ent, .slice A2 ml c2] 25) = W) := ⟨_, rfl⟩
  have HB : Hid (Below w.heap.size w W) := by unfold Hid; rw [← HW.out]; exact lb_alloc (Below.refl _ _) _
  have i0 : W.cell? ⟨w.heap.size, 0, none⟩ = some (.slice A1 text.length c1) := by rw [← HW.out]; simp [go_sem]
  have i1 : W.cell? ⟨w.heap.size, 1, none⟩ = some (.int .i64 ent) := by rw [← HW.out]; simp [go_sem]
  have HT : Hid (IntsAt w A1 .u32 text) := hT
  have HK0 : Hid (Mks w b n f) := hk
  have HKW : Hid (Mks W b n f) := hk.keep HB.out
  have HR : Hid _ := hR
  clear hT hk hR
  go_enter Tryz.func102, Tryz.ntmps102
  go_upto_region 1 with fail
  rw [HW.out]
  clear HW
  go_wp2_with fail
  refine (mark_any b n f ent W HKW.out (by omega) (by omega) (by omega)).mono ?_
  rintro e w1 ⟨rfl, hk1, hg1⟩
  have j0 := HKW.out.cell hg1 i0
  have HK1 : Hid (Mks w1 b (n + 1) (addK (setF f ent) (gLab text) 0)) := hk1.fit fun y => (addK_zero _ _ y).symm
  have HG1 : Hid (w.grownBy w1 (some b)) := (grown_of HB.out).trans hg1
  clear i0 i1 hk1 hg1
  go_wp2
  go_loopw [15] (fun i wr => ∃ (k m : Nat), i = .int .i64 k ∧ k ≤ text.length ∧ m ≤ n + 1 + k ∧ Hid (Mks wr b m (addK (setF f ent) (gLab text) k)) ∧ Hid (w.grownBy wr (some b))) (fun i _ => text.length - (intOf i).toNat)
  case atStart => exact ⟨0, n + 1, rfl, Nat.zero_le _, Nat.le_refl _, HK1, HG1⟩
  case round =>
    clear HK1 HG1 j0
    obtain ⟨k, m, rfl, hk, hm, HK, HG⟩ := hrel
    by_cases hlt : k < text.length
    · obtain ⟨a, rfl, q⟩ := (HK0.out.ints HG.out HT.out) k hlt
      obtain ⟨hv0, hv1⟩ := HR.out k hlt
      have C := isatarget_any (nth text k) hv0 hv1 wr
      have HY : Hid (isT (nth text k) = true → gLab text k = some (tgV (nth text k)) ∧ 0 ≤ tgV (nth text k) ∧ tgV (nth text k) < 16384) := fun h => ⟨gLab_yes h, tg_pos h⟩
      have HN : Hid (isT (nth text k) = false → gLab text k = none) := gLab_no
      generalize nth text k = v at *
      generalize isT v = t at *
      generalize tgV v = z at *
      cases t with
      | false =>
        have HG0 : Hid (gLab text k = none) := HN.out rfl
        clear HY HN
        go_wp2_with (go_at_call 98; refine C.mono ?_; rintro e w2 ⟨rfl, hb2⟩)
        go_roundw
        case rel => exact ⟨k + 1, m, by go_num, by omega, by omega, (HK.out.keep hb2).fit (addK_none HG0.out), grown_on HG.out hb2⟩
        case measure => simp [intOf]; omega
      | true =>
        obtain ⟨hg, hz0, hz1⟩ := HY.out rfl
        have HG0 : Hid (gLab text k = some z) := hg
        clear HY HN hg
        go_wp2_with (first
          | (go_at_call 98; refine C.mono ?_; rintro e w2 ⟨rfl, hb2⟩)
          | (go_at_call 101; refine (mark_any b m _ z _ (HK.out.keep hb2) (by omega) (by omega) (by omega)).mono ?_; rintro e w3 ⟨rfl, hk3, hg3⟩))
        go_roundw
        case rel => exact ⟨k + 1, m + 1, by go_num, by omega, by omega, hk3.fit (addK_some HG0.out), (grown_on HG.out hb2).trans hg3⟩
        case measure => simp [intOf]; omega
    · obtain rfl : k = text.length := by omega
      go_wp2
      refine bodyPost_end (v := .tuple #[]) (by simp [results, Tryz.results102, go_sem]) rfl ?_
      exact ⟨rfl, HK.out.more hm, HG.out⟩



end Go.Proofs.YtokhclindfipbaaGreatDoor

namespace Go.Proofs.YtokhclindfipbaaGreatDoor
open Go.RowKit

set_option maxRecDepth 100000 in
set_option maxHeartbeats 2000000 in
theorem markbegins_any (A1 A2 : Option Addr) (c1 ml c2 : Nat) (ent : Int) (text : List Int) (b n : Nat) (f : Int → Bool) (w : World) (hT : IntsAt w A1 .u32 text) (hR : ∀ i, i < text.length → 0 ≤ nth text i ∧ nth text i < 4294967296) (hl : text.length ≤ 1048576) (he0 : 0 ≤ ent) (he1 : ent ≤ 1048576) (hk : Mks w b n f) (hn : n ≤ 1000000) :
    Calls Tryz.prog 79 #[.agg #[.slice A1 text.length c1, .int .i64 ent, .slice A2 ml c2], .map (some b)] w (MkP b (n + 2 + text.length + text.length) (addK (addK (setF (setF f 0) ent) (gLab text) text.length) (gEnd text) text.length) w) := by
  obtain ⟨W, HW⟩ : ∃ W, Hid (w.alloc (.cells #[.slice A1 text.length c1, .int .i64 ent, .slice A2 ml c2] 25) = W) := ⟨_, rfl⟩
  have HB : Hid (Below w.heap.size w W) := by unfold Hid; rw [← HW.out]; exact lb_alloc (Below.refl _ _) _
  have i0 : W.cell? ⟨w.heap.size, 0, none⟩ = some (.slice A1 text.length c1) := by rw [← HW.out]; simp [go_sem]
  have i1 : W.cell? ⟨w.heap.size, 1, none⟩ = some (.int .i64 ent) := by rw [← HW.out]; simp [go_sem]
  have i2 : W.cell? ⟨w.heap.size, 2, none⟩ = some (.slice A2 ml c2) := by rw [← HW.out]; simp [go_sem]
  have HT : Hid (IntsAt w A1 .u32 text) := hT
  have HK0 : Hid (Mks w b n f) := hk
  have HKW : Hid (Mks W b n f) := hk.keep HB.out
  have HR : Hid _ := hR
  clear hT hk hR
  go_enter Tryz.func79, Tryz.ntmps79
  go_upto_region 1 with fail
  rw [HW.out]
  clear HW
  go_wp2_with fail
  refine (mark_any b n f 0 W HKW.out (by omega) (by omega) (by omega)).mono ?_
  rintro e w1 ⟨rfl, hk1, hg1⟩
  have j0 := HKW.out.cell hg1 i0
  have j1 := HKW.out.cell hg1 i1
  have j2 := HKW.out.cell hg1 i2
  have HK1 : Hid (Mks w1 b (n + 1) (setF f 0)) := hk1
  have HG1 : Hid (w.grownBy w1 (some b)) := (grown_of HB.out).trans hg1
  clear i0 i1 i2 hk1 hg1
  go_wp2_with fail
  refine (marklabels_any A1 A2 c1 ml c2 ent text b (n + 1) (setF f 0) w1 (HK0.out.ints HG1.out HT.out) HR.out hl he0 he1 HK1.out (by omega)).mono ?_
  rintro e w2 ⟨rfl, hk2, hg2⟩
  have k0 := HK1.out.cell hg2 j0
  have HK2 : Hid (Mks w2 b (n + 1 + 1 + text.length) (addK (addK (setF (setF f 0) ent) (gLab text) text.length) (gEnd text) 0)) := hk2.fit fun y => (addK_zero _ _ y).symm
  have HG2 : Hid (w.grownBy w2 (some b)) := HG1.out.trans hg2
  clear j0 j1 j2 hk2 hg2 HK1 HG1
  go_wp2
  go_loopw [14] (fun i wr => ∃ (k m : Nat), i = .int .i64 k ∧ k ≤ text.length ∧ m ≤ n + 2 + text.length + k ∧ Hid (Mks wr b m (addK (addK (setF (setF f 0) ent) (gLab text) text.length) (gEnd text) k)) ∧ Hid (w.grownBy wr (some b))) (fun i _ => text.length - (intOf i).toNat)
  case atStart => exact ⟨0, n + 1 + 1 + text.length, rfl, Nat.zero_le _, by omega, HK2, HG2⟩
  case round =>
    clear HK2 HG2 k0
    obtain ⟨k, m, rfl, hk, hm, HK, HG⟩ := hrel
    by_cases hlt : k < text.length
    · obtain ⟨a, rfl, q⟩ := (HK0.out.ints HG.out HT.out) k hlt
      obtain ⟨hv0, hv1⟩ := HR.out k hlt
      have C := isaends_any (nth text k) hv0 hv1 wr
      have HY : Hid (endsB (dOp (nth text k)) = true → gEnd text k = some ((k : Int) + 1)) := gEnd_yes
      have HN : Hid (endsB (dOp (nth text k)) = false → gEnd text k = none) := gEnd_no
      generalize nth text k = v at *
      generalize endsB (dOp v) = t at *
      cases t with
      | false =>
        have HG0 : Hid (gEnd text k = none) := HN.out rfl
        clear HY HN
        go_wp2_with (go_at_call 103; refine C.mono ?_; rintro e w2 ⟨rfl, hb2⟩)
        go_roundw
        case rel => exact ⟨k + 1, m, by go_num, by omega, by omega, (HK.out.keep hb2).fit (addK_none HG0.out), grown_on HG.out hb2⟩
        case measure => simp [intOf]; omega
      | true =>
        have HG0 : Hid (gEnd text k = some ((k : Int) + 1)) := HY.out rfl
        clear HY HN
        go_wp2_with (first
          | (go_at_call 103; refine C.mono ?_; rintro e w2 ⟨rfl, hb2⟩)
          | (go_at_call 101; refine (mark_any b m _ ((k : Int) + 1) _ (HK.out.keep hb2) (by omega) (by omega) (by omega)).mono ?_; rintro e w3 ⟨rfl, hk3, hg3⟩))
        go_roundw
        case rel => exact ⟨k + 1, m + 1, by go_num, by omega, by omega, hk3.fit (addK_some HG0.out), (grown_on HG.out hb2).trans hg3⟩
        case measure => simp [intOf]; omega
    · obtain rfl : k = text.length := by omega
      go_wp2
      refine bodyPost_end (v := .tuple #[]) (by simp [results, Tryz.results79, go_sem]) rfl ?_
      exact ⟨rfl, HK.out.more hm, HG.out⟩



end Go.Proofs.YtokhclindfipbaaGreatDoor
