/-
  A place held against its neighbours.
-/
import Derived.Test.YtkdafkdogmemcaaProg
import Derived.WalkKit
import Derived.WalkSpells
import Derived.WalkLawsBesides
import Derived.RowKit3
import Derived.Below
import Derived.Deep.QuietTactic
import Derived.BigQuiet
import Derived.WalkSmall
import Derived.Laws.Rows
import Derived.Test.YtkdafkdogmemcaaPm06
namespace Go.Proofs.Ytkdafkdogmemcaa
open Go.RowKit

attribute [local go_sem] Oper.semAt_some

/-- What a range's own doing may turn: whatever is no cells, from n on. -/
structure Turn (n : Nat) (W W' : World) : Prop where
  os : W'.os = W.os
  tape : W'.tape = W.tape
  output : W'.output = W.output
  size : W.heap.size ≤ W'.heap.size
  low : ∀ b, b < n → W'.heap[b]? = W.heap[b]?
  cells : ∀ (b : Nat) (cs : Array Value) (t : TypeId) (m : Nat × Nat), W.heap[b]? = some (.cells cs t m) → W'.heap[b]? = W.heap[b]?
theorem Turn.of {n : Nat} {W W' : World} (h : Below W.heap.size W W') (hn : n ≤ W.heap.size) : Turn n W W' :=
  ⟨h.os, h.tape, h.output, h.size, fun b hb => h.block b (by omega), fun b _ _ _ e => h.block b (Array.getElem?_eq_some_iff.1 e).1⟩
theorem Turn.put {n l : Nat} {W : World} {o o' : Obj} (h : W.heap[l]? = some o) (ho : o.isCells = false) (hn : n ≤ l) : Turn n W (W.putObj l o') :=
  ⟨rfl, rfl, rfl, by simp, fun b hb => World.putObj_heap_other (by omega), fun b cs t m e => World.putObj_heap_other (fun e2 => by rw [e2, h] at e; cases e; cases ho)⟩
theorem own_blockB {W : World} {base n : Nat} {e : TypeId} {size : Nat} {v : Value} {xs : List Value} (h : W.ownsRow base e size v n xs) {g : Nat} (hg : v.ownBlock = some g) : ∃ cs, W.heap[g]? = some (.cells cs e (0, 0)) := by
  rcases h.2 with ⟨rfl, _⟩ | ⟨g', cap, cur, rfl, _, h3, _⟩
  · cases hg
  · cases hg
    exact ⟨cur, h3⟩
theorem Turn.row {n : Nat} {W W' : World} {base : Nat} {e : TypeId} {size : Nat} {v : Value} {k : Nat} {xs : List Value} (h : Turn n W W') (hr : W.ownsRow base e size v k xs) : W'.ownsRow base e size v k xs := by
  obtain ⟨h1, h2⟩ := hr
  refine ⟨h1, ?_⟩
  rcases h2 with h2 | ⟨g', cap, cur, rfl, h2, h3, h4⟩
  · exact .inl h2
  · exact .inr ⟨g', cap, cur, rfl, h2, (h.cells _ _ _ _ h3).trans h3, h4⟩
theorem Turn.box {n B : Nat} {t : TypeId} {cs : Array Value} {W W' : World} {m : Nat × Nat} (h : Turn n W W') (hb : W.heap[B]? = some (.cells cs t m)) : W'.heap[B]? = some (.cells cs t m) := (h.cells B _ _ _ hb).trans hb
theorem Turn.below {n n0 : Nat} {w0 W W' : World} (h : Turn n W W') (hb : Below n0 w0 W) (hn : n0 ≤ n) : Below n0 w0 W' := hb.trans ⟨h.os, h.tape, h.output, h.size, fun k hk => h.low k (by omega)⟩
/-- What a round must keep: what lay below n0; from n1 on whatever is no cells. -/
structure Kept (n0 n1 : Nat) (W W' : World) : Prop where
  low : Below n0 W W'
  other : ∀ (b : Nat) (o : Obj), W.heap[b]? = some o → n1 ≤ b → o.isCells = false → W'.heap[b]? = some o
theorem Kept.trans {n0 n1 : Nat} {A B C : World} (h : Kept n0 n1 A B) (k : Kept n0 n1 B C) : Kept n0 n1 A C :=
  ⟨h.low.trans k.low, fun b o e hb ho => k.other b o (h.other b o e hb ho) hb ho⟩
theorem Kept.of {n0 n1 : Nat} {W W' : World} (h : Below W.heap.size W W') (hn : n0 ≤ W.heap.size) : Kept n0 n1 W W' :=
  ⟨h.mono hn, fun b _o e _ _ => (h.block b (Array.getElem?_eq_some_iff.1 e).1).trans e⟩
/-- A change of one block of cells. -/
theorem Kept.grown {n0 n1 g : Nat} {W W' : World} {cs : Array Value} {t : TypeId} {m : Nat × Nat} (h : W.grownBy W' (some g)) (hg : W.heap[g]? = some (.cells cs t m)) (hn : n0 ≤ g) : Kept n0 n1 W W' := by
  have hlt := (Array.getElem?_eq_some_iff.1 hg).1
  refine ⟨⟨h.os, h.tape, h.output, h.size, fun k hk => h.block k (by omega) (fun e => by cases e; omega)⟩, fun b o e _ ho => ?_⟩
  exact (h.block b (Array.getElem?_eq_some_iff.1 e).1 (fun e2 => by cases e2; rw [hg] at e; cases e; cases ho)).trans e
theorem Kept.grown0 {n0 n1 : Nat} {W W' : World} (h : W.grownBy W' none) (hn : n0 ≤ W.heap.size) : Kept n0 n1 W W' :=
  Kept.of ⟨h.os, h.tape, h.output, h.size, fun k hk => h.block k hk (by simp)⟩ hn
theorem below_put {n0 l : Nat} {W : World} {o : Obj} (hn : n0 ≤ l) : Below n0 W (W.putObj l o) := ⟨rfl, rfl, rfl, by simp, fun b hb => World.putObj_heap_other (by omega)⟩

/-- How a round's body may be left. -/
def RoundQ (n0 n1 : Nat) (I Ix : List Int → World → Prop) (T : List Int) (W : World) : Exit → Act → World → Prop
  | .normal, _, W' => Kept n0 n1 W W' ∧ I T W'
  | .ret, _, W' => Kept n0 n1 W W' ∧ Ix T W'
  | _, _, _ => False
set_option maxHeartbeats 2000000 in
/-- A range over the neighbours. -/
theorem range_bes {g : Operand} {ps : Array Tmp} {assign body : Code} {Q : Exit → Act → World → Prop} {a : Act} {w : World} (n : Nat) (hn : 3 ≤ n) (n0 B1 B2 K base : Nat) (X Y : Option Addr) (ko kq : Nat) (O : List Spt) (L : List Int) (x : Int) (hs : Srt L) (hl : L.length ≤ 1048576)
    (hg : a.eval g = .func (.func 21) #[] #[.pointer (some ⟨B1, 0, none⟩), .pointer (some ⟨B2, 0, none⟩)]) (hps : ps.size = 1)
    (I Ix : List Int → World → Prop) (hO : ∀ T W, I T W → KpAt W K base X Y ko kq O L ∧ W.cell? ⟨B1, 0, none⟩ = some (.pointer (some ⟨K, 0, none⟩)) ∧ W.cell? ⟨B2, 0, none⟩ = some (.int .i64 x))
    (hI : ∀ T W W', I T W → Turn w.heap.size W W' → I T W') (hIx : ∀ T W W', Ix T W → Turn w.heap.size W W' → Ix T W') (h0 : I [] w) (a1 : Int → Act)
    (hassign : ∀ (l0 : Nat) (o : Int) (W : World) (K : Act → World → Prop), K (a1 o) W → assign.wpIn (Fence.wide.inRound l0) (n - 1 - 1) Try.prog (Exit.then K (fun _ _ _ => False)) { tmps := (ps.zip #[.int .i64 o]).foldl (fun t (p, v) => t.setIfInBounds p v) a.tmps, defers := [] } W)
    (hbody : ∀ (l0 : Nat) (T : List Int) (o : Int) (W : World), T ++ [o] <+: besL L x → w.heap.size ≤ W.heap.size → I T W → body.wpIn (Fence.wide.inRound l0) (n - 1 - 1) Try.prog (RoundQ n0 w.heap.size I Ix (T ++ [o]) W) (a1 o) W)
    (hdone : ∀ (D : Nat) (W : World), w.heap.size ≤ D → I (besL L x) W → W.heap[D]? = some (.deferred (some [])) → Q .normal { a with defers := { target := .collected D, args := #[] } :: a.defers } W)
    (hstop : ∀ (D : Nat) (T : List Int) (W : World), w.heap.size ≤ D → T <+: besL L x → Ix T W → W.heap[D]? = some (.deferred (some [])) → Q .ret { a with defers := { target := .collected D, args := #[] } :: a.defers } W) :
    (Code.rangeFunc g ps assign body).wpIn Fence.wide n Try.prog Q a w := by
  refine wpIn_rangeFunc fun fn hfn => ?_
  obtain ⟨rec, hrec⟩ : ∃ rec : LoopState → Option Code → Loop, rec = fun st pe => { state := st, pending := pe, fn, tmps := a.tmps, params := ps, assign, body, defers := w.heap.size } := ⟨_, rfl⟩
  obtain ⟨W1, hW1⟩ : ∃ W1, (w.alloc (.deferred (some []))).alloc (.loop (rec .ready none)) = W1 := ⟨_, rfl⟩
  have b1 : Below w.heap.size w W1 := by rw [← hW1]; exact lb_alloc (lb_alloc (Below.refl _ _) _) _
  have L1 : W1.heap[w.heap.size + 1]? = some (.loop (rec .ready none)) := by
    rw [← hW1]; have := World.alloc_heap_new (w.alloc (.deferred (some []))) (.loop (rec .ready none)); rwa [World.size_alloc] at this
  have D1 : W1.heap[w.heap.size]? = some (.deferred (some [])) := by
    rw [← hW1]; exact (Below.heap_alloc _ _ _ (by simp)).trans (World.alloc_heap_new w _)
  have size : ∀ {W : World} {o : Obj}, W.heap[w.heap.size + 1]? = some o → w.heap.size ≤ W.heap.size := fun h => by
    have := (Array.getElem?_eq_some_iff.1 h).1
    omega
  refine ⟨w.heap.size + 1, [{ target := .collected w.heap.size, args := #[] }], W1, { target := .fn (.func 21) #[.pointer (some ⟨B1, 0, none⟩), .pointer (some ⟨B2, 0, none⟩)], args := #[.func (.yield (w.heap.size + 1)) #[] #[]] }, W1, 21, #[.func (.yield (w.heap.size + 1)) #[] #[], .pointer (some ⟨B1, 0, none⟩), .pointer (some ⟨B2, 0, none⟩)], W1, ?_, ?_, fun _ _ => trivial, ?_, (fun h => by cases h), ?_⟩
  · rw [← hW1, hrec]; exact run_enterLoop_outer _ _ _ _ _
  · simp only [resolve, hg]
    simp [go_sem]
  · have eg := enters_of Try.func21 (by kernel_rfl) rfl
    simp [invoke, go_sem, eg _ _]
  · refine (bes1_any (n - 1) (by omega) (w.heap.size + 1) B1 B2 K base X Y ko kq O L x hs hl
      (fun T W => I T W ∧ W.heap[w.heap.size + 1]? = some (.loop (rec .ready none)) ∧ W.heap[w.heap.size]? = some (.deferred (some [])))
      (fun T W => Ix T W ∧ W.heap[w.heap.size + 1]? = some (.loop (rec .done (some .ret))) ∧ W.heap[w.heap.size]? = some (.deferred (some [])))
      (fun T W W' h hb => ⟨hI T W W' h.1 (Turn.of hb (size h.2.1)), (hb.block _ (Array.getElem?_eq_some_iff.1 h.2.1).1).trans h.2.1, (hb.block _ (Array.getElem?_eq_some_iff.1 h.2.2).1).trans h.2.2⟩)
      (fun T W h => hO T W h.1) ?round W1 ⟨hI [] w W1 h0 (Turn.of b1 (Nat.le_refl _)), L1, D1⟩).mono ?_
    case round =>
      rintro T o W hp ⟨hi, hl, hd⟩
      have hlt : w.heap.size + 1 < W.heap.size := (Array.getElem?_eq_some_iff.1 hl).1
      have hy := run_yield (P := Try.prog) (args := #[.int .i64 o]) hl (by rw [hrec]; simp [hps])
      rw [hrec] at hy
      refine ⟨fn, _, assign, body, hy, roundIn_of_wpIn hfn (hassign _ _ W _ ?_)⟩
      refine ⟨_, run_beginRound hl (by rw [hrec]), ?_⟩
      have tn : Turn w.heap.size W (W.putObj (w.heap.size + 1) (.loop { rec .ready none with state := .busy })) := Turn.put hl rfl (by omega)
      have l2 : (W.putObj (w.heap.size + 1) (.loop { rec .ready none with state := .busy })).heap[w.heap.size + 1]? = some (.loop { rec .ready none with state := .busy }) := World.putObj_heap_same hlt
      have d2 : (W.putObj (w.heap.size + 1) (.loop { rec .ready none with state := .busy })).heap[w.heap.size]? = some (.deferred (some [])) := (World.putObj_heap_other (by omega)).trans hd
      refine wpIn_mono (hbody _ T o _ hp (Nat.le_trans (by omega) tn.size) (hI _ _ _ hi tn)) ?_
      intro e a3 W3 hq
      cases e with
      | normal =>
        obtain ⟨k3, i3⟩ := hq
        have l3 := k3.other _ _ l2 (by omega) rfl
        have d3 := k3.other _ _ d2 (Nat.le_refl _) rfl
        have hr := run_endRound (P := Try.prog) none l3
        refine ⟨_, _, hr, .inl ⟨rfl, hI _ _ _ i3 (Turn.put l3 rfl (by omega)), ?_, (World.putObj_heap_other (by omega)).trans d3⟩⟩
        rw [World.putObj_heap_same (Array.getElem?_eq_some_iff.1 l3).1, hrec]
        rfl
      | ret =>
        obtain ⟨k3, i3⟩ := hq
        have l3 := k3.other _ _ l2 (by omega) rfl
        have d3 := k3.other _ _ d2 (Nat.le_refl _) rfl
        have hr := run_endRound (P := Try.prog) (some .ret) l3
        refine ⟨_, _, hr, .inr ⟨rfl, hIx _ _ _ i3 (Turn.put l3 rfl (by omega)), ?_, (World.putObj_heap_other (by omega)).trans d3⟩⟩
        rw [World.putObj_heap_same (Array.getElem?_eq_some_iff.1 l3).1, hrec]
        rfl
      | exit y => exact hq.elim
      | goto t => exact hq.elim
      | panic ch => exact hq.elim
      | outgrown => exact hq.elim
    rintro e W2 ⟨⟨v, rfl⟩, ⟨hi, hl, hd⟩ | ⟨T, hT, hi, hl, hd⟩⟩
    · exact ⟨none, _, by have := run_endLoop (P := Try.prog) hl (by rw [hrec]; simp); rw [hrec] at this; exact this, hdone _ _ (Nat.le_refl _) (hI _ _ _ hi (Turn.put hl rfl (by omega))) ((World.putObj_heap_other (by omega)).trans hd)⟩
    · exact ⟨some .ret, _, by have := run_endLoop (P := Try.prog) hl (by rw [hrec]; simp); rw [hrec] at this; exact this, wpIn_ret (hstop _ T _ (Nat.le_refl _) hT (hIx _ _ _ hi (Turn.put hl rfl (by omega))) ((World.putObj_heap_other (by omega)).trans hd))⟩

theorem box_newB {W : World} {t : TypeId} {v : Value} {B : Nat} (hB : B = W.heap.size) : Boxed (W.alloc (.cells #[v] t)) B t v := by
  subst hB
  exact World.alloc_heap_new _ _
/-- While the neighbours are gone through. -/
structure BsI (n x : Int) (K base : Nat) (X Y : Option Addr) (ko kq : Nat) (O : List Spt) (L : List Int) (w : World) (T : List Int) (W : World) : Prop where
  b0 : Boxed W w.heap.size 3 (.int .i64 n)
  b1 : Boxed W (w.heap.size + 1) 3 (.int .i64 x)
  b2 : Boxed W (w.heap.size + 1 + 1) 4 (.bool false)
  b3 : Boxed W (w.heap.size + 1 + 1 + 1) 42 (.pointer (some ⟨K, 0, none⟩))
  b4 : Boxed W (w.heap.size + 1 + 1 + 1 + 1) 3 (.int .i64 x)
  kp : KpAt W K base X Y ko kq O L
  no : T.any (ovD n x) = false
  low : Below w.heap.size w W
theorem KpAt.turn {W W' : World} {m K base : Nat} {X Y : Option Addr} {ko kq : Nat} {O : List Spt} {Q : List Int} (h : KpAt W K base X Y ko kq O Q) (t : Turn m W W') : KpAt W' K base X Y ko kq O Q := ⟨t.box h.box, t.row h.spots, t.row h.places⟩
theorem BsI.turn {n x : Int} {K base : Nat} {X Y : Option Addr} {ko kq : Nat} {O : List Spt} {L : List Int} {w : World} {T : List Int} {W W' : World} {m : Nat} (h : BsI n x K base X Y ko kq O L w T W) (t : Turn m W W') (hm : w.heap.size ≤ m) : BsI n x K base X Y ko kq O L w T W' :=
  ⟨t.box h.b0, t.box h.b1, t.box h.b2, t.box h.b3, t.box h.b4, h.kp.turn t, h.no, t.below h.low hm⟩
/-- One that overlaps was met. -/
structure BsX (n x : Int) (w : World) (T : List Int) (W : World) : Prop where
  b2 : Boxed W (w.heap.size + 1 + 1) 4 (.bool true)
  yes : T.any (ovD n x) = true
  low : Below w.heap.size w W
theorem BsX.turn {n x : Int} {w : World} {T : List Int} {W W' : World} {m : Nat} (h : BsX n x w T W) (t : Turn m W W') (hm : w.heap.size ≤ m) : BsX n x w T W' := ⟨t.box h.b2, h.yes, t.below h.low hm⟩
theorem any_pre {f : Int → Bool} {T L : List Int} (h : T <+: L) (ht : T.any f = true) : L.any f = true := by
  obtain ⟨r, rfl⟩ := h
  rw [List.any_append, ht, Bool.true_or]
set_option maxRecDepth 100000 in
set_option maxHeartbeats 4000000 in
theorem poverl_any (n x : Int) (K base : Nat) (X Y : Option Addr) (ko kq : Nat) (O : List Spt) (L : List Int) (w : World) (h : KpAt w K base X Y ko kq O L) (hs : Srt L) (hl : L.length ≤ 1048576) (hx : 0 ≤ x ∧ x ≤ 16384) (hL : ∀ p ∈ L, 0 ≤ p ∧ p ≤ 16384) :
    Calls Try.prog 8 #[.pointer (some ⟨K, 0, none⟩), .int .i64 n, .int .i64 x] w fun e w' => e = .returned (.bool (besB n L x)) ∧ Below w.heap.size w w' := by
  have HS : Hid (Srt L) := hs
  have HL : Hid (∀ p ∈ L, 0 ≤ p ∧ p ≤ 16384) := hL
  have HBV : Hid (besB n L x = (besL L x).any (ovD n x)) := (besL_any n L x).symm
  obtain ⟨w1, hw1⟩ : ∃ W, ((w.alloc (.cells #[.int .i64 n] 3)).alloc (.cells #[.int .i64 x] 3)).alloc (.cells #[.bool false] 4) = W := ⟨_, rfl⟩
  have hb1 : Below w.heap.size w w1 := by rw [← hw1]; exact lb_alloc (lb_alloc (lb_alloc (Below.refl _ _) _) _) _
  have hsz : w1.heap.size = w.heap.size + 1 + 1 + 1 := by rw [← hw1]; simp
  obtain ⟨w2, hw2⟩ : ∃ W, (w1.alloc (.cells #[.pointer (some ⟨K, 0, none⟩)] 42)).alloc (.cells #[.int .i64 x] 3) = W := ⟨_, rfl⟩
  have hb2 : Below w1.heap.size w1 w2 := by rw [← hw2]; exact lb_alloc (lb_alloc (Below.refl _ _) _) _
  have c0 : Boxed w1 w.heap.size 3 (.int .i64 n) := by rw [← hw1]; exact ((box_newB rfl).alloc _).alloc _
  have c1 : Boxed w1 (w.heap.size + 1) 3 (.int .i64 x) := by rw [← hw1]; exact (box_newB (by simp)).alloc _
  have c2 : Boxed w1 (w.heap.size + 1 + 1) 4 (.bool false) := by rw [← hw1]; exact box_newB (by simp)
  have d0 : Boxed w2 w.heap.size 3 (.int .i64 n) := (hb2.block _ c0.lt).trans c0
  have d1 : Boxed w2 (w.heap.size + 1) 3 (.int .i64 x) := (hb2.block _ c1.lt).trans c1
  have d2 : Boxed w2 (w.heap.size + 1 + 1) 4 (.bool false) := (hb2.block _ c2.lt).trans c2
  have d3 : Boxed w2 (w.heap.size + 1 + 1 + 1) 42 (.pointer (some ⟨K, 0, none⟩)) := by rw [← hw2, ← hsz]; exact (box_newB rfl).alloc _
  have d4 : Boxed w2 (w.heap.size + 1 + 1 + 1 + 1) 3 (.int .i64 x) := by rw [← hw2, ← hsz]; exact box_newB (by simp)
  have hI0 : BsI n x K base X Y ko kq O L w [] w2 := ⟨d0, d1, d2, d3, d4, (h.keep hb1).keep hb2, rfl, lb_trans hb1 hb2⟩
  have hsz2 : w2.heap.size = w.heap.size + 1 + 1 + 1 + 1 + 1 := by rw [← hw2]; simp [hsz]
  have C : Calls Try.prog 15 #[.pointer (some ⟨K, 0, none⟩), .int .i64 x] w1 fun e w' => e = .returned (.func (.func 21) #[] #[.pointer (some ⟨w.heap.size + 1 + 1 + 1, 0, none⟩), .pointer (some ⟨w.heap.size + 1 + 1 + 1 + 1, 0, none⟩)]) ∧ w' = w2 := by
    have HE : Hid _ := hw2
    rw [← hsz]
    clear hw1 hw2 hb1 hb2 hI0 d0 d1 d2 d3 d4 c0 c1 c2 hsz2 h hs hL
    go_enter Try.func15, Try.ntmps15
    go_wp2
    go_ret
    exact ⟨by simp, HE.out⟩
  have HW1 : Hid _ := hw1
  have HI0 : Hid (BsI n x K base X Y ko kq O L w [] w2) := hI0
  have c1c := c1.cell
  clear hw1 hw2 hb1 hb2 hI0 d0 d1 d2 d3 d4 c0 c1 c2 h hs hL
  refine (callsIn_wide (n := 5)).1 ?_
  refine callsIn_of_wp_marks Try.func8 rfl trivial ?_ rfl
  simp only [Try.ntmps8, List.size_toArray, List.length_cons, List.length_nil, Nat.reduceAdd, Nat.reduceSub, Array.replicate_succ, Array.replicate_zero, List.push_toArray, List.append_toArray, List.nil_append, List.cons_append]
  gi_upto_region 1 with fail
  rw [HW1.out]
  clear HW1
  gi_wp2_with fail
  refine ⟨trivial, (callsIn_wide.2 C).mono ?_⟩
  rintro e W0 ⟨rfl, rfl⟩
  clear C c1c
  gi_wp2_with fail
  have hI0 := HI0.out
  clear HI0
  refine range_bes 5 (by decide) w.heap.size (w.heap.size + 1 + 1 + 1) (w.heap.size + 1 + 1 + 1 + 1) K base X Y ko kq O L x HS.out hl rfl rfl (BsI n x K base X Y ko kq O L w) (BsX n x w) (fun T W h => ⟨h.kp, h.b3.cell, h.b4.cell⟩) (fun T W W' h t => h.turn t (by omega)) (fun T W W' h t => h.turn t (by omega)) hI0 (fun o => { tmps := #[.pointer (some ⟨K, 0, none⟩), .int .i64 n, .int .i64 x, undef, .pointer (some ⟨w.heap.size, 0, none⟩), .pointer (some ⟨w.heap.size + 1, 0, none⟩), .pointer (some ⟨w.heap.size + 1 + 1, 0, none⟩), .int .i64 o, .pointer (some ⟨K, 0, none⟩), .int .i64 x, .func (.func 21) #[] #[.pointer (some ⟨w.heap.size + 1 + 1 + 1, 0, none⟩), .pointer (some ⟨w.heap.size + 1 + 1 + 1 + 1, 0, none⟩)], .int .i64 o, undef, undef, undef, undef], defers := [] }) ?assign ?body ?done ?stop
  case assign =>
    intro l0 o W K hK
    have HK : Hid _ := hK
    clear hK
    gi_wp2
    exact HK.out
  case body =>
    rintro l0 T o W hp hsW hI
    have q0 := hI.b0.cell
    have q1 := hI.b1.cell
    have q2 := hI.b2.cell
    have p2 := hI.b2.frozen
    have HI : Hid (BsI n x K base X Y ko kq O L w T W) := hI
    have hom : o ∈ besL L x := by
      obtain ⟨r, hr⟩ := hp
      rw [← hr]
      simp
    have C := povl_any n x o W hx (HL.out o (besL_mem hom))
    have HN : Hid ((T ++ [o]).any (ovD n x) = ovD n x o) := by
      unfold Hid
      rw [List.any_append, hI.no]
      simp
    clear hI hp hom
    cases hb : ovD n x o with
    | false =>
      rw [hb] at C
      rw [hb] at HN
      clear hb
      gi_wp2_with fail
      refine ⟨trivial, (CallsIn.inRound l0 (callsIn_wide.2 C)).mono ?_⟩
      rintro e W3 ⟨rfl, rfl⟩
      have hI := HI.out
      clear C HI
      gi_wp2
      exact ⟨Kept.of (Below.refl _ _) (by omega), hI.b0, hI.b1, hI.b2, hI.b3, hI.b4, hI.kp, HN.out, hI.low⟩
    | true =>
      rw [hb] at C
      rw [hb] at HN
      clear hb
      gi_wp2_with fail
      refine ⟨trivial, (CallsIn.inRound l0 (callsIn_wide.2 C)).mono ?_⟩
      rintro e W3 ⟨rfl, rfl⟩
      clear C
      gi_wp2
      refine ⟨Kept.grown (Lib.grownBy_setB (World.grownBy.refl W3 _) 0 _) HI.out.b2 (by omega), ?_, HN.out, HI.out.low.setCell (p := ⟨w.heap.size + 1 + 1, 0, none⟩) (by show w.heap.size ≤ w.heap.size + 1 + 1; omega) _⟩
      exact HI.out.b2.set _
  case done =>
    intro D W hD hI hK
    have H2 : Hid (Boxed W (w.heap.size + 1 + 1) 4 (.bool false)) := hI.b2
    have q2 := hI.b2.cell
    have p2 := hI.b2.frozen
    have HD : Hid (W.heap[D]? = some (.deferred (some []))) := hK
    have HLow : Hid (Below w.heap.size w W) := hI.low
    have HV : Hid (besB n L x = false) := by unfold Hid; rw [HBV.out]; exact hI.no
    clear hI hK HBV
    gi_wp2
    obtain ⟨W3, hW3⟩ : ∃ W3, W3 = W.setCell ⟨w.heap.size + 1 + 1, 0, none⟩ (.bool false) := ⟨_, rfl⟩
    rw [← hW3]
    have r2 : Boxed W3 (w.heap.size + 1 + 1) 4 (.bool false) := by rw [hW3]; exact H2.out.set _
    have qK : W3.heap[D]? = some (.deferred (some [])) := by
      rw [hW3]
      exact (KeepsOthers.setCell _ _ _).same D _ HD.out rfl
    have qB : Below w.heap.size w W3 := by
      rw [hW3]
      exact HLow.out.setCell (p := ⟨w.heap.size + 1 + 1, 0, none⟩) (by show w.heap.size ≤ w.heap.size + 1 + 1; omega) _
    clear hW3
    have far := grownBy_putObj' W3 D (.deferred none)
    have z2 := (r2.kept far (fun e => by have := Option.some.inj e; omega)).cell
    refine ⟨by simp, .inl ⟨_, _, rfl, run_takeDeferred qK, ?_⟩⟩
    exact ⟨.bool false, by simp [results, Try.results8, go_sem, z2], retB20 HV.out.symm, qB.trans (belowK_b (w := w) (Nat.le_refl _) W3 D _ _ (by omega) qK rfl rfl)⟩
  case stop =>
    intro D T W hD hT hI hK
    have r2 : Boxed W (w.heap.size + 1 + 1) 4 (.bool true) := hI.b2
    have qB : Below w.heap.size w W := hI.low
    have HV : Hid (besB n L x = true) := by unfold Hid; rw [HBV.out]; exact any_pre hT hI.yes
    clear hI HBV
    have far := grownBy_putObj' W D (.deferred none)
    have z2 := (r2.kept far (fun e => by have := Option.some.inj e; omega)).cell
    refine ⟨by simp, .inl ⟨_, _, rfl, run_takeDeferred hK, ?_⟩⟩
    exact ⟨.bool true, by simp [results, Try.results8, go_sem, z2], retB20 HV.out.symm, qB.trans (belowK_b (w := w) (Nat.le_refl _) W D _ _ (by omega) hK rfl rfl)⟩

end Go.Proofs.Ytkdafkdogmemcaa
